/-
  'FnSignedBy' answers true at every input, and each argument reads behind the call as before. Conditions: none.
  The frame is the kit's shell (proof-skeleton.mjs); the walk is the verifier's.
-/
import Derived.Test.YthniiknhbhoncaaRows
import Derived.Test.YthniiknhbhoncaaJD
import Derived.Test.YthniiknhbhoncaaJG
import Derived.Test.YthniiknhbhoncaaGc
import Derived.Lib.Hide
import Derived.Outline
import Derived.BigQuiet
import Derived.Deep.QuietTactic
import Derived.Deep.Draws
import Derived.Laws.OwnMore
import Derived.Laws.Rows
import Derived.WalkSpells
import Derived.Deep.RegionWith
import Derived.WalkKit
import Derived.ProofKit
import Derived.OpenShut
import Derived.ShutString
import Derived.ChangeOld
import Derived.Below
namespace Go.Proofs.Ythniiknhbhoncaa.fnSignedBy
open Go.ChangeShapes Go.WideShapes Go.ChangeAt Go.RowKit
open Go.ChangeMaps (open_string shut_string)
set_option linter.unusedVariables false

theorem own : ownKnob Try.prog.godebug = none := by kernel_rfl
theorem laidOut : laidOutB Try.prog = true := by kernel_rfl

/-- WHAT THE WALK IS TOLD OF A SLICE OF INTEGERS THAT CAME IN: it is nil; or it leads to a row of 'cap' cells, the numbers 'zs' (the first 'len' are its elements, the rest its spare room), each fitting its kind. -/
def IsRow (k : IntKind) (w : World) (a : Option Addr) (len cap : Nat) (zs : List Int) : Prop :=
  (a = none ∧ len = 0 ∧ cap = 0 ∧ zs = []) ∨
  ∃ x, a = some x ∧ len ≤ cap ∧ cap ≤ maxLen ∧ zs.length = cap ∧ (∀ i, i < zs.length → w.cell? (x.add i) = some (.int k (zs.getD i 0))) ∧ ∀ n ∈ zs, (Lit.int k n).wf = true

/-! ### STEP 1: THE WALK: the Go text returns true, AND WRITES NOTHING THAT WAS THERE: 'Below w.heap.size w w'' (Derived/Below.lean: '.refl', '.alloc', '.drew', '.setCell' at a new block, '.trans'). Open each 'IsRow' by 'rcases' AHEAD of 'go_enter'; part every test ahead of the walk. -/
set_option maxRecDepth 100000 in
set_option maxHeartbeats 4000000 in
theorem walk (a0 : Option Addr) (len0 cap0 : Nat) (z0 : List Int) (w : World) (w0 : IsRow .u8 w a0 len0 cap0 z0) :
    Calls Try.prog 5 #[.slice a0 len0 cap0] w fun e w' => e = .returned (.bool true) ∧ Below w.heap.size w w' := by
  have hcode := codeArg_of w0
  have hcap := hcode.1
  have hcap2 := hcode.2.1
  unfold maxLen at hcap2
  clear w0
  by_cases hbig : 1048576 < len0
  · go_enter Try.func5, Try.ntmps5
    go_wp2
    go_ret
    exact ⟨rfl, Below.refl _ _⟩
  · go_enter Try.func5, Try.ntmps5
    go_wp2_with fail
    refine (drawSgB_any w a0 len0 cap0 hcode).mono ?_
    rintro e w2 ⟨⟨t, m, u, g⟩, ⟨a, b, e⟩, rfl, ht, hb2⟩
    have hB := Lib.hid hb2
    clear hb2
    have hm : t.size ≤ maxLen := by unfold maxLen; simp only at ht; omega
    simp only [aggSg, aggKy]
    obtain ⟨Y, hY⟩ : ∃ Y, sgY ⟨t, m, u, g⟩ ⟨a, b, e⟩ = Y := ⟨_, rfl⟩
    have HY := Lib.hid hY
    obtain ⟨R, hR⟩ : ∃ R, sgR ⟨t, m, u, g⟩ = R := ⟨_, rfl⟩
    have HR := Lib.hid hR
    obtain ⟨N, hN⟩ : ∃ N, kyM ⟨a, b, e⟩ = N := ⟨_, rfl⟩
    have HN := Lib.hid hN
    have hv : (R = false → Y = false) ∧ (N ≠ m → Y = false) ∧ (e ≠ u → Y = false) ∧ (R = true → N = m → e = u → Y = true) ∧ (R = true → 100 ≤ m) := by
      rw [← hY, ← hR, ← hN]
      exact ⟨fun q => sgY_no q, fun q => sgY_mod q, fun q => sgY_exp q, fun p q r => sgY_yes p q r, fun p => (sgR_of p).2.1.1⟩
    have hv := Lib.hid hv
    clear hY hR hN
    have eY : (Y == Y) = true := by simp
    have hx34 : ∃ x3 x4, w2.alloc (.cells #[.string t, .int .i64 m, .int .i64 u, .int .i64 g] 28) = x3 ∧ x3.alloc (.cells #[.int .i64 a, .int .i64 b, .int .i64 e] 24) = x4 := ⟨_, _, rfl, rfl⟩
    go_wp2_with fail
    obtain ⟨x3, x4, hx3, hx4⟩ := hx34
    rw [hx3, hx4]
    have hs3 : x3.heap.size = w2.heap.size + 1 := by rw [← hx3]; simp
    have g3 : Below w2.heap.size w2 x3 := by rw [← hx3]; exact (Below.refl _ _).alloc (Nat.le_refl _) _
    have g4 : Below x3.heap.size x3 x4 := by rw [← hx4]; exact (Below.refl _ _).alloc (Nat.le_refl _) _
    replace hB := Lib.hid (below_trans' (below_trans' hB.out g3) g4)
    have K0 := Lib.hid g4
    have K1 := Lib.hid (Below.refl x4.heap.size x4)
    have R0 := Lib.hid (fun wX (hX : Below x3.heap.size x3 wX) => row4 hx3 hX)
    have R1 : Hid (∀ wX, Below x4.heap.size x4 wX → wX.cell? ⟨w2.heap.size + 1, 0, none⟩ = some (.int .i64 a) ∧ wX.cell? ⟨w2.heap.size + 1, 1, none⟩ = some (.int .i64 b) ∧ wX.cell? ⟨w2.heap.size + 1, 2, none⟩ = some (.int .i64 e)) := Lib.hid (fun wX hX => by have := row3 hx4 hX; rw [hs3] at this; exact this)
    have hx3 := Lib.hid hx3
    have hx4 := Lib.hid hx4
    clear g3 g4 hs3
    obtain ⟨y0_0, y0_1, y0_2, y0_3⟩ := R0.out _ K0.out
    obtain ⟨y1_0, y1_1, y1_2⟩ := R1.out _ K1.out
    refine (sgI_by t m u g a b e _ hm).mono ?_
    rintro e w3 ⟨rfl, hb3⟩
    rw [HY.out]
    replace hB := Lib.hid (below_trans' hB.out hb3)
    replace K0 := Lib.hid (below_trans' K0.out hb3)
    replace K1 := Lib.hid (below_trans' K1.out hb3)
    clear hb3
    clear y0_0 y0_1 y0_2 y0_3
    obtain ⟨y0_0, y0_1, y0_2, y0_3⟩ := R0.out _ K0.out
    clear y1_0 y1_1 y1_2
    obtain ⟨y1_0, y1_1, y1_2⟩ := R1.out _ K1.out
    go_wp2_with fail
    refine (sgS_by t m u g a b e _ hm).mono ?_
    rintro e w4 ⟨rfl, hb4⟩
    rw [HY.out]
    replace hB := Lib.hid (below_trans' hB.out hb4)
    replace K0 := Lib.hid (below_trans' K0.out hb4)
    replace K1 := Lib.hid (below_trans' K1.out hb4)
    clear hb4
    clear y0_0 y0_1 y0_2 y0_3
    obtain ⟨y0_0, y0_1, y0_2, y0_3⟩ := R0.out _ K0.out
    clear y1_0 y1_1 y1_2
    obtain ⟨y1_0, y1_1, y1_2⟩ := R1.out _ K1.out
    go_wp2_with fail
    refine (kyI_mod a b e _).mono ?_
    rintro e w5 ⟨rfl, hb5⟩
    rw [HN.out]
    replace hB := Lib.hid (below_trans' hB.out hb5)
    replace K0 := Lib.hid (below_trans' K0.out hb5)
    replace K1 := Lib.hid (below_trans' K1.out hb5)
    clear hb5
    clear y0_0 y0_1 y0_2 y0_3
    obtain ⟨y0_0, y0_1, y0_2, y0_3⟩ := R0.out _ K0.out
    clear y1_0 y1_1 y1_2
    obtain ⟨y1_0, y1_1, y1_2⟩ := R1.out _ K1.out
    cases R with
    | false =>
      have hy := hv.out.1 rfl
      subst hy
      clear hv
      go_wp2_with fail
      refine (sgI_right t m u g _ hm).mono ?_
      rintro e w6 ⟨rfl, hb6⟩
      rw [HR.out]
      replace hB := Lib.hid (below_trans' hB.out hb6)
      replace K0 := Lib.hid (below_trans' K0.out hb6)
      replace K1 := Lib.hid (below_trans' K1.out hb6)
      clear hb6
      clear y0_0 y0_1 y0_2 y0_3
      obtain ⟨y0_0, y0_1, y0_2, y0_3⟩ := R0.out _ K0.out
      clear y1_0 y1_1 y1_2
      obtain ⟨y1_0, y1_1, y1_2⟩ := R1.out _ K1.out
      go_wp2_with (first | (go_at_call 12; ((with_reducible refine (alive_any _).mono ?_); rintro e w' ⟨rfl, rfl⟩)))
      go_ret
      exact ⟨rfl, hB.out⟩
    | true =>
      have h100 := hv.out.2.2.2.2 rfl
      go_wp2_with fail
      refine (sgI_right t m u g _ hm).mono ?_
      rintro e w7 ⟨rfl, hb7⟩
      rw [HR.out]
      replace hB := Lib.hid (below_trans' hB.out hb7)
      replace K0 := Lib.hid (below_trans' K0.out hb7)
      replace K1 := Lib.hid (below_trans' K1.out hb7)
      clear hb7
      clear y0_0 y0_1 y0_2 y0_3
      obtain ⟨y0_0, y0_1, y0_2, y0_3⟩ := R0.out _ K0.out
      clear y1_0 y1_1 y1_2
      obtain ⟨y1_0, y1_1, y1_2⟩ := R1.out _ K1.out
      by_cases h1 : N = m
      · have t1 : (m == N) = true := by rw [beq_iff_eq]; exact h1.symm
        have d0 : decide (0 ≤ N) = true := decide_eq_true (by omega)
        by_cases h2 : e = u
        · have hy := hv.out.2.2.2.1 (by simp) h1 h2
          have t2 : (u == e) = true := by rw [beq_iff_eq]; exact h2.symm
          subst hy
          clear hv h1 h2 h100
          go_wp2_with (first | (go_at_call 12; ((with_reducible refine (alive_any _).mono ?_); rintro e w' ⟨rfl, rfl⟩)))
          go_ret
          exact ⟨rfl, hB.out⟩
        · have hy := hv.out.2.2.1 h2
          have t2 : (u == e) = false := by rw [beq_eq_false_iff_ne]; exact Ne.symm h2
          subst hy
          clear hv h1 h2 h100
          go_wp2_with (first | (go_at_call 12; ((with_reducible refine (alive_any _).mono ?_); rintro e w' ⟨rfl, rfl⟩)))
          go_ret
          exact ⟨rfl, hB.out⟩
      · have hy := hv.out.2.1 h1
        have t1 : (m == N) = false := by rw [beq_eq_false_iff_ne]; exact Ne.symm h1
        subst hy
        clear hv h1 h100
        by_cases h3 : 0 ≤ N
        · have d0 : decide (0 ≤ N) = true := decide_eq_true h3
          go_wp2_with (first | (go_at_call 12; ((with_reducible refine (alive_any _).mono ?_); rintro e w' ⟨rfl, rfl⟩)))
          go_ret
          exact ⟨rfl, hB.out⟩
        · have d0 : decide (0 ≤ N) = false := decide_eq_false h3
          go_wp2_with (first | (go_at_call 12; ((with_reducible refine (alive_any _).mono ?_); rintro e w' ⟨rfl, rfl⟩)))
          go_ret
          exact ⟨rfl, hB.out⟩

/-! ### THE ROW's STEP: WRITTEN OUT: LEAVE IT -/
set_option maxRecDepth 100000 in
theorem lifted (os : Os) (started : os.Started) (H : Type) (enc : TypeId × Value → H) :
    ReturnsInHanded {} Try.checked os 5 .any (Rows.fnSignedBySpec.pre6 enc Try.prog Try.f5 Rows.fnSignedByRow.domain false) (Rows.fnSignedBySpec.post enc Try.prog Try.f5 false true false false) := by
  refine returnsInHanded_of_change (C := Try.checked) own started (by kernel_rfl) Try.func5
    (ChangeSpec.witness6 (enc := enc) (C := Try.checked) false ⟨#[], #[.slice none 0 0], []⟩ 8 (by kernel_rfl) (by kernel_rfl) (by kernel_rfl) (by kernel_rfl)) ?_
  intro W base args ds gs before hval0 hW hcnd _
  have hval : ∀ (j : Nat) t v, Try.f5.params[j]? = some t → args[j]? = some v → Value.okWide Try.prog W .any base t v := hval0
  have hW' := hW
  obtain ⟨p, q, hA0, hV, rfl, hfz, hnd⟩ := hW
  have hA : DataW.TrodAll enc Try.prog W 0 (fun _ => true) true Try.f5.params.toList args.toList ds p := hA0
  rw [Try.params5] at hA hval
  obtain ⟨v0, vs0, d0, ds0, p0, q0, hargs, rfl, rfl, h0, r0⟩ := trodAll_cons hA
  obtain ⟨rfl, rfl, rfl⟩ := trodAll_nil r0
  obtain rfl : args = #[v0] := by cases args; simp_all
  obtain ⟨rfl, rfl⟩ := trodVars_none hV
  obtain ⟨a0, len0, cap0, rfl⟩ := okWide_slice Try.underlying22 (hval 0 22 v0 rfl rfl)
  have k0 := h0
  have lt0 : ∀ x ∈ p0, x.block < W.heap.size := by obtain ⟨m, hm⟩ := k0; exact DataW.trod_lt m _ _ _ hm
  obtain ⟨z0, w0⟩ : ∃ zs, IsRow .u8 W a0 len0 cap0 zs := by
    obtain ⟨fuel, hf⟩ := h0
    rcases open_ints Try.underlying22 Try.underlying5 (by kernel_rfl) hf with ⟨hcs, _⟩ | ⟨x, l, c, zs, hcs, _, hl, hm, hz, _, hcell, hwz⟩
    · simp [Value.cells] at hcs
      obtain ⟨rfl, rfl, rfl⟩ := hcs
      exact ⟨[], .inl ⟨rfl, rfl, rfl, rfl⟩⟩
    · simp [Value.cells] at hcs
      obtain ⟨rfl, rfl, rfl⟩ := hcs
      exact ⟨zs, .inr ⟨_, rfl, hl, hm, by simpa using hz, hcell, hwz⟩⟩
  clear hA0 hval0
  refine (walk a0 len0 cap0 z0 W w0).mono fun e W' ⟨he, bel⟩ => ?_
  subst he
  exact ⟨_, rfl, _, _, _, [], _, [], hW', trodAll_mk1 (shut_bool Try.underlying4 _), (trodAll_cons_mk (Below.trod laidOut (by kernel_rfl) (of_decide_eq_true (by kernel_rfl)) k0 bel lt0) trodAll_mk0), rfl, bel.frame _, fun h => by cases h⟩

theorem over : Rows.fnSignedByRow.holds Try.pinned (OpenSpec.ofChange Rows.fnSignedBySpec) :=
  OpenClaim.holds_of_wide 5 Try.f5 rfl rfl rfl rfl rfl rfl rfl ⟨rfl, rfl, rfl, rfl, rfl⟩ rfl rfl rfl rfl rfl (by kernel_rfl) Try.func5 (by kernel_rfl)
    (of_decide_eq_true (by kernel_rfl)) (by unfold Func.isWrapper; first | (rw [if_pos (by decide +kernel)]; kernel_rfl) | (rw [if_neg (by decide +kernel)]; exact ⟨rfl, rfl⟩))
    (fun os started H enc _ => lifted os started H enc)

/-- ████ THE STATEMENT ████ -/
theorem proved : Rows.FnSignedBySaid := over
#print axioms proved
end Go.Proofs.Ythniiknhbhoncaa.fnSignedBy
