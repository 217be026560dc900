/-
  'FnSignatureRight' answers true at every input, and each argument reads behind the call as before. Conditions: none.
  The frame is the kit's shell (proof-skeleton.mjs); the walk is the verifier's.
-/
import Derived.Test.YthniiknhbhoncaaRows
import Derived.Test.YthniiknhbhoncaaJD
import Derived.Test.YthniiknhbhoncaaJG
import Derived.Test.YthniiknhbhoncaaGc
import Derived.Test.YthniiknhbhoncaaJB
import Derived.IntWalk
import Derived.Lib.Hide
import Derived.Outline
import Derived.BigQuiet
import Derived.Deep.QuietTactic
import Derived.Deep.Draws
import Derived.Laws.OwnMore
import Derived.Laws.Rows
import Derived.WalkSpells
import Derived.Deep.RegionWith
import Derived.WalkKit
import Derived.ProofKit
import Derived.OpenShut
import Derived.ShutString
import Derived.ChangeOld
import Derived.Below
namespace Go.Proofs.Ythniiknhbhoncaa.fnSignatureRight
open Go.ChangeShapes Go.WideShapes Go.ChangeAt Go.RowKit
open Go.ChangeMaps (open_string shut_string)
set_option linter.unusedVariables false

theorem own : ownKnob Try.prog.godebug = none := by kernel_rfl
theorem laidOut : laidOutB Try.prog = true := by kernel_rfl

/-- WHAT THE WALK IS TOLD OF A SLICE OF INTEGERS THAT CAME IN: it is nil; or it leads to a row of 'cap' cells, the numbers 'zs' (the first 'len' are its elements, the rest its spare room), each fitting its kind. -/
def IsRow (k : IntKind) (w : World) (a : Option Addr) (len cap : Nat) (zs : List Int) : Prop :=
  (a = none ∧ len = 0 ∧ cap = 0 ∧ zs = []) ∨
  ∃ x, a = some x ∧ len ≤ cap ∧ cap ≤ maxLen ∧ zs.length = cap ∧ (∀ i, i < zs.length → w.cell? (x.add i) = some (.int k (zs.getD i 0))) ∧ ∀ n ∈ zs, (Lit.int k n).wf = true

/-- what the operations of the region yield -/
def QSgRt (b0 b1 : Nat) (t : ByteArray) (m u g D E p q : Int) (j : Nat) (v : Value) : Prop :=
  match j with
  | 0 => v = .agg #[.string ⟨#[122]⟩, .int .i64 m, .int .i64 u, .int .i64 g]
  | 1 => v = .bool (p == q)
  | 2 => v = .int .i64 D
  | 3 => v = .pointer (some ⟨b0, 1, none⟩)
  | 4 => v = .int .i64 m
  | 5 => v = .int .i64 p
  | 6 => v = .pointer (some ⟨b0, 0, none⟩)
  | 7 => v = .string t
  | 8 => v = .int .i64 E
  | 9 => v = .pointer (some ⟨b0, 1, none⟩)
  | 10 => v = .int .i64 m
  | 11 => v = .int .i64 q
  | 12 => v = .bool (p == q)
  | 13 => v = .bool true
  | 14 => v = .bool true
  | _ => False
/-! ### STEP 1: THE WALK: the Go text returns true, AND WRITES NOTHING THAT WAS THERE: 'Below w.heap.size w w'' (Derived/Below.lean: '.refl', '.alloc', '.drew', '.setCell' at a new block, '.trans'). Open each 'IsRow' by 'rcases' AHEAD of 'go_enter'; part every test ahead of the walk. -/
set_option maxRecDepth 100000 in
set_option maxHeartbeats 4000000 in
theorem walk (a0 : Option Addr) (len0 cap0 : Nat) (z0 : List Int) (w : World) (w0 : IsRow .u8 w a0 len0 cap0 z0) :
    Calls Try.prog 4 #[.slice a0 len0 cap0] w fun e w' => e = .returned (.bool true) ∧ Below w.heap.size w w' := by
  have hcode := codeArg_of w0
  have hcap := hcode.1
  have hcap2 := hcode.2.1
  unfold maxLen at hcap2
  clear w0
  by_cases hbig : 1048576 < len0
  · go_enter Try.func4, Try.ntmps4
    go_wp2
    go_ret
    exact ⟨rfl, Below.refl _ _⟩
  · go_enter Try.func4, Try.ntmps4
    go_wp2_with fail
    refine (drawSgR_any w a0 len0 cap0 hcode).mono ?_
    rintro e w2 ⟨⟨t, m, u, g⟩, rfl, ht, hb2⟩
    have hB := Lib.hid hb2
    clear hb2
    have hm : t.size ≤ maxLen := by unfold maxLen; simp only at ht; omega
    simp only [aggSg]
    obtain ⟨R, hR⟩ : ∃ R, sgR ⟨t, m, u, g⟩ = R := ⟨_, rfl⟩
    have HR := Lib.hid hR
    obtain ⟨x3, hx3⟩ : ∃ x3, w2.alloc (.cells #[.string t, .int .i64 m, .int .i64 u, .int .i64 g] 28) = x3 := ⟨_, rfl⟩
    have gx3 : Below w2.heap.size w2 x3 := by rw [← hx3]; exact (Below.refl _ _).alloc (Nat.le_refl _) _
    replace hB := Lib.hid (below_trans' hB.out gx3)
    clear gx3
    have K0 := Lib.hid (Below.refl x3.heap.size x3)
    have R0 := Lib.hid (fun wX (hX : Below x3.heap.size x3 wX) => row4 hx3 hX)
    obtain ⟨y0_0, y0_1, y0_2, y0_3⟩ := R0.out _ K0.out
    go_wp2_with fail
    have hx3 := Lib.hid hx3
    refine (sgI_right t m u g _ hm).mono ?_
    rintro e w3 ⟨rfl, hb3⟩
    rw [HR.out]
    replace hB := Lib.hid (below_trans' hB.out hb3)
    replace K0 := Lib.hid (below_trans' K0.out hb3)
    clear hb3
    clear y0_0 y0_1 y0_2 y0_3
    obtain ⟨y0_0, y0_1, y0_2, y0_3⟩ := R0.out _ K0.out
    go_wp2_with fail
    refine (sgS_right t m u g _ hm).mono ?_
    rintro e w4 ⟨rfl, hb4⟩
    rw [HR.out]
    replace hB := Lib.hid (below_trans' hB.out hb4)
    replace K0 := Lib.hid (below_trans' K0.out hb4)
    clear hb4
    clear y0_0 y0_1 y0_2 y0_3
    obtain ⟨y0_0, y0_1, y0_2, y0_3⟩ := R0.out _ K0.out
    cases R with
    | false =>
      clear hR
      go_wp2_with (first | (go_at_call 12; ((with_reducible refine (alive_any _).mono ?_); rintro e w' ⟨rfl, rfl⟩)))
      go_ret
      exact ⟨rfl, hB.out⟩
    | true =>
      obtain ⟨htx, hmr, heq⟩ := sgR_of hR
      simp only at htx hmr heq
      clear hR
      have hzt : textB (⟨#[122]⟩ : ByteArray).data.toList = true := by decide
      have hzm : (⟨#[122]⟩ : ByteArray).size ≤ maxLen := by decide
      have hd1 := dgO_lo hzt
      have hd2 := dgO_lo htx
      obtain ⟨D, hD⟩ : ∃ D, dgO (⟨#[122]⟩ : ByteArray).data.toList = D := ⟨_, rfl⟩
      obtain ⟨E, hE⟩ : ∃ E, dgO t.data.toList = E := ⟨_, rfl⟩
      have hX : sgR ⟨⟨#[122]⟩, m, u, g⟩ = (D % m == E % m) := by
        rw [sgR_in hzt (inB_true hmr.1 hmr.2)]; simp only; rw [heq, hE, hD]; by_cases q : E % m = D % m
        · rw [decide_eq_true q, beq_iff_eq.2 q.symm]
        · rw [decide_eq_false q, beq_eq_false_iff_ne.2 (Ne.symm q)]
      rw [hD] at hd1
      rw [hE] at hd2
      have HX := Lib.hid hX
      have HD := Lib.hid hD
      have HE := Lib.hid hE
      have l1 := mod_lo (x := D) (m := m) (by omega)
      have l2 := mod_lo (x := E) (m := m) (by omega)
      have i5 : D.tmod m = D % m := Int.tmod_eq_emod_of_nonneg hd1.1
      have i6 : E.tmod m = E % m := Int.tmod_eq_emod_of_nonneg hd2.1
      have iw1 := IntWalk.i64_in (D % m) (by omega)
      have iw2 := IntWalk.i64_in (E % m) (by omega)
      have hm0 : ¬ m = 0 := by omega
      obtain ⟨p, hp⟩ : ∃ p, D % m = p := ⟨_, rfl⟩
      obtain ⟨q, hq⟩ : ∃ q, E % m = q := ⟨_, rfl⟩
      rw [hp] at i5 iw1
      rw [hq] at i6 iw2
      rw [hp, hq] at HX
      have ee : ((p == q) == (p == q)) = true := by simp
      clear htx hmr heq hzt hd1 hd2 hX hD hE l1 l2 hp hq
      have hE4 := hB.out.size
      obtain ⟨x5, hx5⟩ : ∃ x5, w4.alloc (.cells #[.string t, .int .i64 m, .int .i64 u, .int .i64 g] 28) = x5 := ⟨_, rfl⟩
      have hg5 : Below w4.heap.size w4 x5 := by rw [← hx5]; exact (Below.refl _ _).alloc (Nat.le_refl _) _
      have hy5 : x5.heap[w4.heap.size]? = some (.cells #[.string t, .int .i64 m, .int .i64 u, .int .i64 g] 28 (0, 0)) := by rw [← hx5]; exact heap_alloc_new w4 _
      obtain ⟨x6, hx6⟩ : ∃ x6, x5.setCell ⟨w4.heap.size, 0, none⟩ (.string ⟨#[122]⟩) = x6 := ⟨_, rfl⟩
      have hg6 : Below w4.heap.size w4 x6 := by rw [← hx6]; exact hg5.setCell (Nat.le_refl _) _
      have hy6 : x6.heap[w4.heap.size]? = some (.cells #[.string ⟨#[122]⟩, .int .i64 m, .int .i64 u, .int .i64 g] 28 (0, 0)) := by rw [← hx6]; exact heap_setCell_same x5 w4.heap.size 0 _ _ _ hy5
      have hrow : ∀ wX, Below x6.heap.size x6 wX → (wX.cell? ⟨w2.heap.size, 0, none⟩ = some (.string t) ∧ wX.cell? ⟨w2.heap.size, 1, none⟩ = some (.int .i64 m) ∧ wX.cell? ⟨w2.heap.size, 2, none⟩ = some (.int .i64 u) ∧ wX.cell? ⟨w2.heap.size, 3, none⟩ = some (.int .i64 g)) ∧ (wX.cell? ⟨w4.heap.size, 0, none⟩ = some (.string ⟨#[122]⟩) ∧ wX.cell? ⟨w4.heap.size, 1, none⟩ = some (.int .i64 m) ∧ wX.cell? ⟨w4.heap.size, 2, none⟩ = some (.int .i64 u) ∧ wX.cell? ⟨w4.heap.size, 3, none⟩ = some (.int .i64 g)) := fun wX hX => by
        have h6 := (hX.block w4.heap.size (Array.getElem?_eq_some_iff.1 hy6).1).trans hy6
        exact ⟨R0.out wX (below_trans' (below_trans' K0.out hg6) hX), cell_of_row _ _ 0 _ _ (0, 0) h6, cell_of_row _ _ 1 _ _ (0, 0) h6, cell_of_row _ _ 2 _ _ (0, 0) h6, cell_of_row _ _ 3 _ _ (0, 0) h6⟩
      have hrow := Lib.hid hrow
      have z0 := cell_of_row x5 w4.heap.size 0 _ _ (0, 0) hy5
      have zf : ∀ j, x5.frozen? ⟨w4.heap.size, j, none⟩ = false := fun j => by simp [World.frozen?, hy5]
      replace hB := Lib.hid (below_trans' hB.out hg6)
      clear hg5 hg6 hy5 hy6 hE4
      go_wp2_with fail
      have hx5 := Lib.hid hx5
      have hx6 := Lib.hid hx6
      obtain ⟨Fr, hFr⟩ : ∃ Fr : (Nat → Value) → Act, Fr = (fun x => { tmps := #[.slice a0 len0 cap0, undef, x 14, .pointer (some ⟨w2.heap.size, 0, none⟩), .bool true, .pointer (some ⟨w4.heap.size, 0, none⟩), .slice a0 len0 cap0, .int .i64 ((len0 : Nat) : Int), .bool (decide (1048576 < ((len0 : Nat) : Int))), .slice a0 len0 cap0, .agg #[.string t, .int .i64 m, .int .i64 u, .int .i64 g], .agg #[.string t, .int .i64 m, .int .i64 u, .int .i64 g], .bool true, .bool true, .agg #[.string t, .int .i64 m, .int .i64 u, .int .i64 g], .bool true, .bool false, .bool true, .bool false, undef, .agg #[.string t, .int .i64 m, .int .i64 u, .int .i64 g], .pointer (some ⟨w4.heap.size, 0, none⟩), x 0, x 1, x 2, x 3, x 4, x 5, x 6, x 7, x 8, x 9, x 10, x 11, x 12, x 13], defers := [] }) := ⟨_, rfl⟩
      refine calm_region2 (n := 15) (by kernel_rfl) rfl Fr (fun j v _ => QSgRt w2.heap.size w4.heap.size t m u g D E p q j v) (by kernel_rfl) (fun j => if j = 0 then undef else if j = 1 then undef else if j = 2 then undef else if j = 3 then undef else if j = 4 then undef else if j = 5 then undef else if j = 6 then undef else if j = 7 then undef else if j = 8 then undef else if j = 9 then undef else if j = 10 then undef else if j = 11 then undef else if j = 12 then undef else if j = 13 then undef else if j = 14 then .bool false else undef) (by rw [hFr]; rfl) (fun _ _ _ _ _ h _ => h) ?_ ?_
      · intro i o f x wz hi ho hf hp hG hQ K hK
        subst hFr
        obtain rfl | rfl | rfl | rfl | rfl | rfl | rfl | rfl | rfl | rfl | rfl | rfl | rfl | rfl | rfl : i = 0 ∨ i = 1 ∨ i = 2 ∨ i = 3 ∨ i = 4 ∨ i = 5 ∨ i = 6 ∨ i = 7 ∨ i = 8 ∨ i = 9 ∨ i = 10 ∨ i = 11 ∨ i = 12 ∨ i = 13 ∨ i = 14 := by omega
        · simp at ho
          subst ho
          rw [if_pos (by rfl)]
          obtain ⟨⟨u0, u1, u2, u3⟩, v0, v1, v2, v3⟩ := hrow.out wz hG
          go_simp
          have key := hK _ _ rfl (Below.refl _ _)
          simp [setX] at key
          exact key
        · simp at ho
          subst ho
          have p0 : f 0 = true := edge_on (by kernel_rfl) hp
          have q0 : x 0 = .agg #[.string ⟨#[122]⟩, .int .i64 m, .int .i64 u, .int .i64 g] := hQ 0 (by omega) p0
          rw [if_pos (by rfl)]
          go_simp
          refine (sgI_right ⟨#[122]⟩ m u g _ hzm).mono ?_
          rintro e0 w5 ⟨rfl, hb5⟩
          rw [HX.out]
          have key := hK _ _ rfl hb5
          simp [setX, q0] at key
          exact key
        · simp at ho
          subst ho
          rw [if_pos (by rfl)]
          go_simp
          refine (dgP_of ⟨#[122]⟩ _ hzm).mono ?_
          rintro e0 w5 ⟨rfl, rfl⟩
          rw [HD.out]
          have key := hK _ _ rfl (Below.refl _ _)
          simp [setX] at key
          exact key
        · simp at ho
          subst ho
          rw [if_pos (by rfl)]
          go_simp
          have key := hK _ _ rfl (Below.refl _ _)
          simp [setX] at key
          exact key
        · simp at ho
          subst ho
          have p3 : f 3 = true := edge_on (by kernel_rfl) hp
          have q3 : x 3 = .pointer (some ⟨w2.heap.size, 1, none⟩) := hQ 3 (by omega) p3
          rw [if_pos (by rfl)]
          obtain ⟨⟨u0, u1, u2, u3⟩, v0, v1, v2, v3⟩ := hrow.out wz hG
          go_simp
          have key := hK _ _ rfl (Below.refl _ _)
          simp [setX, q3] at key
          exact key
        · simp at ho
          subst ho
          have p2 : f 2 = true := edge_on (by kernel_rfl) hp
          have q2 : x 2 = .int .i64 D := hQ 2 (by omega) p2
          have p4 : f 4 = true := edge_on (by kernel_rfl) hp
          have q4 : x 4 = .int .i64 m := hQ 4 (by omega) p4
          rw [if_pos (by rfl)]
          go_simp
          have key := hK _ _ rfl (Below.refl _ _)
          simp [setX, q2, q4] at key
          exact key
        · simp at ho
          subst ho
          rw [if_pos (by rfl)]
          go_simp
          have key := hK _ _ rfl (Below.refl _ _)
          simp [setX] at key
          exact key
        · simp at ho
          subst ho
          have p6 : f 6 = true := edge_on (by kernel_rfl) hp
          have q6 : x 6 = .pointer (some ⟨w2.heap.size, 0, none⟩) := hQ 6 (by omega) p6
          rw [if_pos (by rfl)]
          obtain ⟨⟨u0, u1, u2, u3⟩, v0, v1, v2, v3⟩ := hrow.out wz hG
          go_simp
          have key := hK _ _ rfl (Below.refl _ _)
          simp [setX, q6] at key
          exact key
        · simp at ho
          subst ho
          have p7 : f 7 = true := edge_on (by kernel_rfl) hp
          have q7 : x 7 = .string t := hQ 7 (by omega) p7
          rw [if_pos (by rfl)]
          go_simp
          refine (dgP_of t _ hm).mono ?_
          rintro e0 w5 ⟨rfl, rfl⟩
          rw [HE.out]
          have key := hK _ _ rfl (Below.refl _ _)
          simp [setX, q7] at key
          exact key
        · simp at ho
          subst ho
          rw [if_pos (by rfl)]
          go_simp
          have key := hK _ _ rfl (Below.refl _ _)
          simp [setX] at key
          exact key
        · simp at ho
          subst ho
          have p9 : f 9 = true := edge_on (by kernel_rfl) hp
          have q9 : x 9 = .pointer (some ⟨w2.heap.size, 1, none⟩) := hQ 9 (by omega) p9
          rw [if_pos (by rfl)]
          obtain ⟨⟨u0, u1, u2, u3⟩, v0, v1, v2, v3⟩ := hrow.out wz hG
          go_simp
          have key := hK _ _ rfl (Below.refl _ _)
          simp [setX, q9] at key
          exact key
        · simp at ho
          subst ho
          have p8 : f 8 = true := edge_on (by kernel_rfl) hp
          have q8 : x 8 = .int .i64 E := hQ 8 (by omega) p8
          have p10 : f 10 = true := edge_on (by kernel_rfl) hp
          have q10 : x 10 = .int .i64 m := hQ 10 (by omega) p10
          rw [if_pos (by rfl)]
          go_simp
          have key := hK _ _ rfl (Below.refl _ _)
          simp [setX, q8, q10] at key
          exact key
        · simp at ho
          subst ho
          have p5 : f 5 = true := edge_on (by kernel_rfl) hp
          have q5 : x 5 = .int .i64 p := hQ 5 (by omega) p5
          have p11 : f 11 = true := edge_on (by kernel_rfl) hp
          have q11 : x 11 = .int .i64 q := hQ 11 (by omega) p11
          rw [if_pos (by rfl)]
          go_simp
          have key := hK _ _ rfl (Below.refl _ _)
          simp [setX, q5, q11] at key
          exact key
        · simp at ho
          subst ho
          have p1 : f 1 = true := edge_on (by kernel_rfl) hp
          have q1 : x 1 = .bool (p == q) := hQ 1 (by omega) p1
          have p12 : f 12 = true := edge_on (by kernel_rfl) hp
          have q12 : x 12 = .bool (p == q) := hQ 12 (by omega) p12
          rw [if_pos (by rfl)]
          go_simp
          have key := hK _ _ rfl (Below.refl _ _)
          simp [setX, q1, q12] at key
          exact key
        · simp at ho
          subst ho
          have p13 : f 13 = true := edge_on (by kernel_rfl) hp
          have q13 : x 13 = .bool true := hQ 13 (by omega) p13
          rw [if_pos (by rfl)]
          go_simp
          have key := hK _ _ rfl (Below.refl _ _)
          simp [setX, q13] at key
          exact key
      · intro x wz hG hQ
        subst hFr
        have q14 : x 14 = .bool true := hQ 14 (by omega)
        go_wp2
        go_ret
        exact ⟨by show Ending.returned (x 14) = _; rw [q14], below_trans' hB.out hG⟩

/-! ### THE ROW's STEP: WRITTEN OUT: LEAVE IT -/
set_option maxRecDepth 100000 in
theorem lifted (os : Os) (started : os.Started) (H : Type) (enc : TypeId × Value → H) :
    ReturnsInHanded {} Try.checked os 4 .any (Rows.fnSignatureRightSpec.pre6 enc Try.prog Try.f4 Rows.fnSignatureRightRow.domain false) (Rows.fnSignatureRightSpec.post enc Try.prog Try.f4 false true false false) := by
  refine returnsInHanded_of_change (C := Try.checked) own started (by kernel_rfl) Try.func4
    (ChangeSpec.witness6 (enc := enc) (C := Try.checked) false ⟨#[], #[.slice none 0 0], []⟩ 8 (by kernel_rfl) (by kernel_rfl) (by kernel_rfl) (by kernel_rfl)) ?_
  intro W base args ds gs before hval0 hW hcnd _
  have hval : ∀ (j : Nat) t v, Try.f4.params[j]? = some t → args[j]? = some v → Value.okWide Try.prog W .any base t v := hval0
  have hW' := hW
  obtain ⟨p, q, hA0, hV, rfl, hfz, hnd⟩ := hW
  have hA : DataW.TrodAll enc Try.prog W 0 (fun _ => true) true Try.f4.params.toList args.toList ds p := hA0
  rw [Try.params4] at hA hval
  obtain ⟨v0, vs0, d0, ds0, p0, q0, hargs, rfl, rfl, h0, r0⟩ := trodAll_cons hA
  obtain ⟨rfl, rfl, rfl⟩ := trodAll_nil r0
  obtain rfl : args = #[v0] := by cases args; simp_all
  obtain ⟨rfl, rfl⟩ := trodVars_none hV
  obtain ⟨a0, len0, cap0, rfl⟩ := okWide_slice Try.underlying22 (hval 0 22 v0 rfl rfl)
  have k0 := h0
  have lt0 : ∀ x ∈ p0, x.block < W.heap.size := by obtain ⟨m, hm⟩ := k0; exact DataW.trod_lt m _ _ _ hm
  obtain ⟨z0, w0⟩ : ∃ zs, IsRow .u8 W a0 len0 cap0 zs := by
    obtain ⟨fuel, hf⟩ := h0
    rcases open_ints Try.underlying22 Try.underlying5 (by kernel_rfl) hf with ⟨hcs, _⟩ | ⟨x, l, c, zs, hcs, _, hl, hm, hz, _, hcell, hwz⟩
    · simp [Value.cells] at hcs
      obtain ⟨rfl, rfl, rfl⟩ := hcs
      exact ⟨[], .inl ⟨rfl, rfl, rfl, rfl⟩⟩
    · simp [Value.cells] at hcs
      obtain ⟨rfl, rfl, rfl⟩ := hcs
      exact ⟨zs, .inr ⟨_, rfl, hl, hm, by simpa using hz, hcell, hwz⟩⟩
  clear hA0 hval0
  refine (walk a0 len0 cap0 z0 W w0).mono fun e W' ⟨he, bel⟩ => ?_
  subst he
  exact ⟨_, rfl, _, _, _, [], _, [], hW', trodAll_mk1 (shut_bool Try.underlying4 _), (trodAll_cons_mk (Below.trod laidOut (by kernel_rfl) (of_decide_eq_true (by kernel_rfl)) k0 bel lt0) trodAll_mk0), rfl, bel.frame _, fun h => by cases h⟩

theorem over : Rows.fnSignatureRightRow.holds Try.pinned (OpenSpec.ofChange Rows.fnSignatureRightSpec) :=
  OpenClaim.holds_of_wide 4 Try.f4 rfl rfl rfl rfl rfl rfl rfl ⟨rfl, rfl, rfl, rfl, rfl⟩ rfl rfl rfl rfl rfl (by kernel_rfl) Try.func4 (by kernel_rfl)
    (of_decide_eq_true (by kernel_rfl)) (by unfold Func.isWrapper; first | (rw [if_pos (by decide +kernel)]; kernel_rfl) | (rw [if_neg (by decide +kernel)]; exact ⟨rfl, rfl⟩))
    (fun os started H enc _ => lifted os started H enc)

/-- ████ THE STATEMENT ████ -/
theorem proved : Rows.FnSignatureRightSaid := over
#print axioms proved
end Go.Proofs.Ythniiknhbhoncaa.fnSignatureRight
