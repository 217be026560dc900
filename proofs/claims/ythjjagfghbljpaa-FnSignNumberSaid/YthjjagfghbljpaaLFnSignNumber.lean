/-
  'FnSignNumber' answers true at every input, and each argument reads behind the call as before. Conditions: none.
  The frame is the kit's shell (proof-skeleton.mjs); the walk is the verifier's.
-/
import Derived.Test.YthjjagfghbljpaaRows
import Derived.Test.YthjjagfghbljpaaJD
import Derived.Test.YthjjagfghbljpaaJG
import Derived.Test.YthjjagfghbljpaaGc
import Derived.Test.YthjjagfghbljpaaJB
import Derived.Lib.Hide
import Derived.Outline
import Derived.BigQuiet
import Derived.Deep.QuietTactic
import Derived.Deep.Draws
import Derived.Laws.OwnMore
import Derived.Laws.Rows
import Derived.WalkSpells
import Derived.Deep.RegionWith
import Derived.WalkKit
import Derived.ProofKit
import Derived.OpenShut
import Derived.ShutString
import Derived.ChangeOld
import Derived.Below
namespace Go.Proofs.Ythjjagfghbljpaa.fnSignNumber
open Go.ChangeShapes Go.WideShapes Go.ChangeAt Go.RowKit
open Go.ChangeMaps (open_string shut_string)
set_option linter.unusedVariables false

theorem own : ownKnob Try.prog.godebug = none := by kernel_rfl
theorem laidOut : laidOutB Try.prog = true := by kernel_rfl

/-- WHAT THE WALK IS TOLD OF A SLICE OF INTEGERS THAT CAME IN: it is nil; or it leads to a row of 'cap' cells, the numbers 'zs' (the first 'len' are its elements, the rest its spare room), each fitting its kind. -/
def IsRow (k : IntKind) (w : World) (a : Option Addr) (len cap : Nat) (zs : List Int) : Prop :=
  (a = none ∧ len = 0 ∧ cap = 0 ∧ zs = []) ∨
  ∃ x, a = some x ∧ len ≤ cap ∧ cap ≤ maxLen ∧ zs.length = cap ∧ (∀ i, i < zs.length → w.cell? (x.add i) = some (.int k (zs.getD i 0))) ∧ ∀ n ∈ zs, (Lit.int k n).wf = true

/-- what the operations of the region yield -/
def QSgLa (b0 : Nat) (a b e z N M P : Int) (j : Nat) (v : Value) : Prop :=
  match j with
  | 0 => v = .int .i64 N
  | 1 => v = .int .i64 M
  | 2 => v = .bool true
  | 3 => v = .bool true
  | 4 => v = .int .i64 M
  | 5 => v = .pointer (some ⟨b0, 2, none⟩)
  | 6 => v = .int .i64 e
  | 7 => v = .int .i64 N
  | 8 => v = .int .i64 z
  | 9 => v = .int .i64 z
  | 10 => v = .bool true
  | 11 => v = .bool true
  | 12 => v = .bool true
  | 13 => v = .agg #[.int .i64 a, .int .i64 b, .int .i64 e]
  | 14 => v = .int .i64 M
  | 15 => v = .pointer (some ⟨b0, 2, none⟩)
  | 16 => v = .int .i64 e
  | 17 => v = .int .i64 z
  | 18 => v = .int .i64 P
  | 19 => v = .int .i64 z
  | 20 => v = .int .i64 z
  | 21 => v = .bool true
  | 22 => v = .bool true
  | 23 => v = .bool true
  | _ => False
/-! ### STEP 1: THE WALK: the Go text returns true, AND WRITES NOTHING THAT WAS THERE: 'Below w.heap.size w w'' (Derived/Below.lean: '.refl', '.alloc', '.drew', '.setCell' at a new block, '.trans'). Open each 'IsRow' by 'rcases' AHEAD of 'go_enter'; part every test ahead of the walk. -/
set_option maxRecDepth 100000 in
set_option maxHeartbeats 4000000 in
theorem walk (a0 : Option Addr) (len0 cap0 : Nat) (z0 : List Int) (w : World) (w0 : IsRow .u8 w a0 len0 cap0 z0) :
    Calls Try.prog 5 #[.slice a0 len0 cap0] w fun e w' => e = .returned (.bool true) ∧ Below w.heap.size w w' := by
  have hcode := codeArg_of w0
  have hcap := hcode.1
  have hcap2 := hcode.2.1
  unfold maxLen at hcap2
  clear w0
  by_cases hbig : 1048576 < len0
  · go_enter Try.func5, Try.ntmps5
    go_wp2
    go_ret
    exact ⟨rfl, Below.refl _ _⟩
  · go_enter Try.func5, Try.ntmps5
    go_wp2_with fail
    refine (drawSgN_any w a0 len0 cap0 hcode).mono ?_
    rintro e w2 ⟨⟨a, b, e⟩, z, rfl, hsh, hb2⟩
    have hB := Lib.hid hb2
    clear hb2
    clear hsh
    obtain ⟨N, hN⟩ : ∃ N, sgN ⟨a, b, e⟩ z = N := ⟨_, rfl⟩
    have HN := Lib.hid hN
    have e0 : (N == N) = true := by simp
    have ez : (z == z) = true := by simp
    simp only [aggKy]
    obtain ⟨x3, hx3⟩ : ∃ x3, w2.alloc (.cells #[.int .i64 a, .int .i64 b, .int .i64 e] 24) = x3 := ⟨_, rfl⟩
    replace hB := Lib.hid (hB.out.trans (((Below.refl _ _).alloc (Nat.le_refl _) (.cells #[.int .i64 a, .int .i64 b, .int .i64 e] 24) : Below w2.heap.size w2 (w2.alloc (.cells #[.int .i64 a, .int .i64 b, .int .i64 e] 24))).mono hB.out.size))
    rw [hx3] at hB
    have K0 := Lib.hid (Below.refl x3.heap.size x3)
    have R0 := Lib.hid (fun wX (hX : Below x3.heap.size x3 wX) => row3 hx3 hX)
    obtain ⟨y0_0, y0_1, y0_2⟩ := R0.out _ K0.out
    go_wp2_with fail
    have hx3 := Lib.hid hx3
    refine (kyI_sign a b e z _).mono ?_
    rintro e w3 ⟨rfl, hb3⟩
    rw [HN.out]
    replace hB := Lib.hid (below_trans' hB.out hb3)
    replace K0 := Lib.hid (below_trans' K0.out hb3)
    clear hb3
    clear y0_0 y0_1 y0_2
    obtain ⟨y0_0, y0_1, y0_2⟩ := R0.out _ K0.out
    go_wp2_with fail
    refine (kyS_sign a b e z _).mono ?_
    rintro e w4 ⟨rfl, hb4⟩
    rw [HN.out]
    replace hB := Lib.hid (below_trans' hB.out hb4)
    replace K0 := Lib.hid (below_trans' K0.out hb4)
    clear hb4
    clear y0_0 y0_1 y0_2
    obtain ⟨y0_0, y0_1, y0_2⟩ := R0.out _ K0.out
    by_cases h0 : N < 0
    · have hn1 : N = -1 := by rw [← hN] at h0 ⊢; exact sgN_neg h0
      clear h0 hN
      subst hn1
      go_wp2_with (first | (go_at_call 14; ((with_reducible refine (alive_any _).mono ?_); rintro e w' ⟨rfl, rfl⟩)))
      go_ret
      exact ⟨rfl, hB.out⟩
    · have d0 : decide (N < 0) = false := decide_eq_false h0
      obtain ⟨hk, hin, hlt⟩ := sgN_lo (k := ⟨a, b, e⟩) (x := z) (by omega)
      have h1 := sg_open hk hin
      have h2 := op_sg hk hin
      obtain ⟨M, hM⟩ : ∃ M, kyM ⟨a, b, e⟩ = M := ⟨_, rfl⟩
      rw [hM] at h1 h2 hlt
      rw [hN] at h1 hlt
      simp only at h1 h2
      obtain ⟨P, hP⟩ : ∃ P, opN M e z = P := ⟨_, rfl⟩
      rw [hP] at h2
      have H1 := Lib.hid h1
      have H2 := Lib.hid h2
      have HP := Lib.hid hP
      have HM := Lib.hid hM
      have d1 : decide (N < M) = true := decide_eq_true hlt
      clear hk hin h1 h2 hP hM hN h0 hlt
      go_wp2_with fail
      refine (kyI_mod a b e _).mono ?_
      rintro e w5 ⟨rfl, hb5⟩
      rw [HM.out]
      replace hB := Lib.hid (below_trans' hB.out hb5)
      replace K0 := Lib.hid (below_trans' K0.out hb5)
      clear hb5
      clear y0_0 y0_1 y0_2
      obtain ⟨y0_0, y0_1, y0_2⟩ := R0.out _ K0.out
      go_wp2_with fail
      obtain ⟨Fr, hFr⟩ : ∃ Fr : (Nat → Value) → Act, Fr = (fun x => { tmps := #[.slice a0 len0 cap0, undef, x 23, .pointer (some ⟨w2.heap.size, 0, none⟩), .int .i64 z, .int .i64 N, .int .i64 M, .slice a0 len0 cap0, .int .i64 ((len0 : Nat) : Int), .bool (decide (1048576 < ((len0 : Nat) : Int))), .tuple #[.agg #[.int .i64 a, .int .i64 b, .int .i64 e], .int .i64 z], .slice a0 len0 cap0, .tuple #[.agg #[.int .i64 a, .int .i64 b, .int .i64 e], .int .i64 z], .agg #[.int .i64 a, .int .i64 b, .int .i64 e], .int .i64 z, .agg #[.int .i64 a, .int .i64 b, .int .i64 e], .int .i64 z, .int .i64 N, .int .i64 N, .agg #[.int .i64 a, .int .i64 b, .int .i64 e], .int .i64 z, .int .i64 N, .bool false, .int .i64 N, .bool false, undef, undef, undef, undef, undef, .agg #[.int .i64 a, .int .i64 b, .int .i64 e], .int .i64 M, x 0, x 1, x 2, x 3, x 4, x 5, x 6, x 7, x 8, x 9, x 10, x 11, x 12, x 13, x 14, x 15, x 16, x 17, x 18, x 19, x 20, x 21, x 22], defers := [] }) := ⟨_, rfl⟩
      refine calm_region2 (n := 24) (by kernel_rfl) rfl Fr (fun j v _ => QSgLa w2.heap.size a b e z N M P j v) (by kernel_rfl) (fun j => if j = 0 then undef else if j = 1 then undef else if j = 2 then undef else if j = 3 then undef else if j = 4 then undef else if j = 5 then undef else if j = 6 then undef else if j = 7 then undef else if j = 8 then undef else if j = 9 then undef else if j = 10 then undef else if j = 11 then undef else if j = 12 then undef else if j = 13 then undef else if j = 14 then undef else if j = 15 then undef else if j = 16 then undef else if j = 17 then undef else if j = 18 then undef else if j = 19 then undef else if j = 20 then undef else if j = 21 then undef else if j = 22 then undef else if j = 23 then .bool false else undef) (by rw [hFr]; rfl) (fun _ _ _ _ _ h _ => h) ?_ ?_
      · intro i o f x w4 hi ho hf hp hG hQ K hK
        subst hFr
        obtain rfl | rfl | rfl | rfl | rfl | rfl | rfl | rfl | rfl | rfl | rfl | rfl | rfl | rfl | rfl | rfl | rfl | rfl | rfl | rfl | rfl | rfl | rfl | rfl : i = 0 ∨ i = 1 ∨ i = 2 ∨ i = 3 ∨ i = 4 ∨ i = 5 ∨ i = 6 ∨ i = 7 ∨ i = 8 ∨ i = 9 ∨ i = 10 ∨ i = 11 ∨ i = 12 ∨ i = 13 ∨ i = 14 ∨ i = 15 ∨ i = 16 ∨ i = 17 ∨ i = 18 ∨ i = 19 ∨ i = 20 ∨ i = 21 ∨ i = 22 ∨ i = 23 := by omega
        · simp at ho
          subst ho
          rw [if_pos (by rfl)]
          go_simp
          have key := hK _ _ rfl (Below.refl _ _)
          simp [setX] at key
          exact key
        · simp at ho
          subst ho
          rw [if_pos (by rfl)]
          go_simp
          have key := hK _ _ rfl (Below.refl _ _)
          simp [setX] at key
          exact key
        · simp at ho
          subst ho
          have p0 : f 0 = true := edge_on (by kernel_rfl) hp
          have q0 : x 0 = .int .i64 N := hQ 0 (by omega) p0
          have p1 : f 1 = true := edge_on (by kernel_rfl) hp
          have q1 : x 1 = .int .i64 M := hQ 1 (by omega) p1
          rw [if_pos (by rfl)]
          go_simp
          have key := hK _ _ rfl (Below.refl _ _)
          simp [setX, q0, q1] at key
          exact key
        · simp at ho
          subst ho
          have p2 : f 2 = true := edge_on (by kernel_rfl) hp
          have q2 : x 2 = .bool true := hQ 2 (by omega) p2
          rw [if_pos (by rfl)]
          go_simp
          have key := hK _ _ rfl (Below.refl _ _)
          simp [setX, q2] at key
          exact key
        · simp at ho
          subst ho
          have p3 : f 3 = true := edge_on (by kernel_rfl) hp
          have q3 : x 3 = .bool true := hQ 3 (by omega) p3
          rw [if_pos (by simp [Region.wanted, yielded, q3])]
          go_simp
          have key := hK _ _ rfl (Below.refl _ _)
          simp [setX, q3] at key
          exact key
        · simp at ho
          subst ho
          have p3 : f 3 = true := edge_on (by kernel_rfl) hp
          have q3 : x 3 = .bool true := hQ 3 (by omega) p3
          rw [if_pos (by simp [Region.wanted, yielded, q3])]
          go_simp
          have key := hK _ _ rfl (Below.refl _ _)
          simp [setX, q3] at key
          exact key
        · simp at ho
          subst ho
          have p3 : f 3 = true := edge_on (by kernel_rfl) hp
          have q3 : x 3 = .bool true := hQ 3 (by omega) p3
          have p5 : f 5 = true := edge_on (by kernel_rfl) hp
          have q5 : x 5 = .pointer (some ⟨w2.heap.size, 2, none⟩) := hQ 5 (by omega) p5
          rw [if_pos (by simp [Region.wanted, yielded, q3])]
          obtain ⟨u0, u1, u2⟩ := R0.out w4 (below_trans' K0.out hG)
          go_simp
          have key := hK _ _ rfl (Below.refl _ _)
          simp [setX, q3, q5] at key
          exact key
        · simp at ho
          subst ho
          have p3 : f 3 = true := edge_on (by kernel_rfl) hp
          have q3 : x 3 = .bool true := hQ 3 (by omega) p3
          rw [if_pos (by simp [Region.wanted, yielded, q3])]
          go_simp
          have key := hK _ _ rfl (Below.refl _ _)
          simp [setX, q3] at key
          exact key
        · simp at ho
          subst ho
          have p3 : f 3 = true := edge_on (by kernel_rfl) hp
          have q3 : x 3 = .bool true := hQ 3 (by omega) p3
          have p4 : f 4 = true := edge_on (by kernel_rfl) hp
          have q4 : x 4 = .int .i64 M := hQ 4 (by omega) p4
          have p6 : f 6 = true := edge_on (by kernel_rfl) hp
          have q6 : x 6 = .int .i64 e := hQ 6 (by omega) p6
          have p7 : f 7 = true := edge_on (by kernel_rfl) hp
          have q7 : x 7 = .int .i64 N := hQ 7 (by omega) p7
          rw [if_pos (by simp [Region.wanted, yielded, q3])]
          go_simp
          refine (kyI_open M e N _).mono ?_
          rintro e0 w5 ⟨rfl, rfl⟩
          rw [H1.out]
          have key := hK _ _ rfl (Below.refl _ _)
          simp [setX, q3, q4, q6, q7] at key
          exact key
        · simp at ho
          subst ho
          have p3 : f 3 = true := edge_on (by kernel_rfl) hp
          have q3 : x 3 = .bool true := hQ 3 (by omega) p3
          rw [if_pos (by simp [Region.wanted, yielded, q3])]
          go_simp
          have key := hK _ _ rfl (Below.refl _ _)
          simp [setX, q3] at key
          exact key
        · simp at ho
          subst ho
          have p3 : f 3 = true := edge_on (by kernel_rfl) hp
          have q3 : x 3 = .bool true := hQ 3 (by omega) p3
          have p8 : f 8 = true := edge_on (by kernel_rfl) hp
          have q8 : x 8 = .int .i64 z := hQ 8 (by omega) p8
          have p9 : f 9 = true := edge_on (by kernel_rfl) hp
          have q9 : x 9 = .int .i64 z := hQ 9 (by omega) p9
          rw [if_pos (by simp [Region.wanted, yielded, q3])]
          go_simp
          have key := hK _ _ rfl (Below.refl _ _)
          simp [setX, q3, q8, q9] at key
          exact key
        · simp at ho
          subst ho
          have p3 : f 3 = true := edge_on (by kernel_rfl) hp
          have q3 : x 3 = .bool true := hQ 3 (by omega) p3
          have p10 : f 10 = true := edge_on (by kernel_rfl) hp
          have q10 : x 10 = .bool true := hQ 10 (by omega) p10
          rw [if_pos (by rfl)]
          go_simp
          have key := hK _ _ rfl (Below.refl _ _)
          simp [setX, q3, q10] at key
          exact key
        · simp at ho
          subst ho
          have p11 : f 11 = true := edge_on (by kernel_rfl) hp
          have q11 : x 11 = .bool true := hQ 11 (by omega) p11
          rw [if_pos (by rfl)]
          go_simp
          have key := hK _ _ rfl (Below.refl _ _)
          simp [setX, q11] at key
          exact key
        · simp at ho
          subst ho
          have p12 : f 12 = true := edge_on (by kernel_rfl) hp
          have q12 : x 12 = .bool true := hQ 12 (by omega) p12
          rw [if_pos (by simp [Region.wanted, yielded, q12])]
          obtain ⟨u0, u1, u2⟩ := R0.out w4 (below_trans' K0.out hG)
          go_simp
          have key := hK _ _ rfl (Below.refl _ _)
          simp [setX, q12] at key
          exact key
        · simp at ho
          subst ho
          have p12 : f 12 = true := edge_on (by kernel_rfl) hp
          have q12 : x 12 = .bool true := hQ 12 (by omega) p12
          rw [if_pos (by simp [Region.wanted, yielded, q12])]
          go_simp
          have key := hK _ _ rfl (Below.refl _ _)
          simp [setX, q12] at key
          exact key
        · simp at ho
          subst ho
          have p12 : f 12 = true := edge_on (by kernel_rfl) hp
          have q12 : x 12 = .bool true := hQ 12 (by omega) p12
          rw [if_pos (by simp [Region.wanted, yielded, q12])]
          go_simp
          have key := hK _ _ rfl (Below.refl _ _)
          simp [setX, q12] at key
          exact key
        · simp at ho
          subst ho
          have p12 : f 12 = true := edge_on (by kernel_rfl) hp
          have q12 : x 12 = .bool true := hQ 12 (by omega) p12
          have p15 : f 15 = true := edge_on (by kernel_rfl) hp
          have q15 : x 15 = .pointer (some ⟨w2.heap.size, 2, none⟩) := hQ 15 (by omega) p15
          rw [if_pos (by simp [Region.wanted, yielded, q12])]
          obtain ⟨u0, u1, u2⟩ := R0.out w4 (below_trans' K0.out hG)
          go_simp
          have key := hK _ _ rfl (Below.refl _ _)
          simp [setX, q12, q15] at key
          exact key
        · simp at ho
          subst ho
          have p12 : f 12 = true := edge_on (by kernel_rfl) hp
          have q12 : x 12 = .bool true := hQ 12 (by omega) p12
          rw [if_pos (by simp [Region.wanted, yielded, q12])]
          go_simp
          have key := hK _ _ rfl (Below.refl _ _)
          simp [setX, q12] at key
          exact key
        · simp at ho
          subst ho
          have p12 : f 12 = true := edge_on (by kernel_rfl) hp
          have q12 : x 12 = .bool true := hQ 12 (by omega) p12
          have p14 : f 14 = true := edge_on (by kernel_rfl) hp
          have q14 : x 14 = .int .i64 M := hQ 14 (by omega) p14
          have p16 : f 16 = true := edge_on (by kernel_rfl) hp
          have q16 : x 16 = .int .i64 e := hQ 16 (by omega) p16
          have p17 : f 17 = true := edge_on (by kernel_rfl) hp
          have q17 : x 17 = .int .i64 z := hQ 17 (by omega) p17
          rw [if_pos (by simp [Region.wanted, yielded, q12])]
          go_simp
          refine (kyI_open M e z _).mono ?_
          rintro e0 w5 ⟨rfl, rfl⟩
          rw [HP.out]
          have key := hK _ _ rfl (Below.refl _ _)
          simp [setX, q12, q14, q16, q17] at key
          exact key
        · simp at ho
          subst ho
          have p12 : f 12 = true := edge_on (by kernel_rfl) hp
          have q12 : x 12 = .bool true := hQ 12 (by omega) p12
          have p13 : f 13 = true := edge_on (by kernel_rfl) hp
          have q13 : x 13 = .agg #[.int .i64 a, .int .i64 b, .int .i64 e] := hQ 13 (by omega) p13
          have p18 : f 18 = true := edge_on (by kernel_rfl) hp
          have q18 : x 18 = .int .i64 P := hQ 18 (by omega) p18
          rw [if_pos (by simp [Region.wanted, yielded, q12])]
          go_simp
          refine (kyI_sign a b e P _).mono ?_
          rintro e0 w5 ⟨rfl, hb5⟩
          rw [H2.out]
          have key := hK _ _ rfl hb5
          simp [setX, q12, q13, q18] at key
          exact key
        · simp at ho
          subst ho
          have p12 : f 12 = true := edge_on (by kernel_rfl) hp
          have q12 : x 12 = .bool true := hQ 12 (by omega) p12
          rw [if_pos (by simp [Region.wanted, yielded, q12])]
          go_simp
          have key := hK _ _ rfl (Below.refl _ _)
          simp [setX, q12] at key
          exact key
        · simp at ho
          subst ho
          have p12 : f 12 = true := edge_on (by kernel_rfl) hp
          have q12 : x 12 = .bool true := hQ 12 (by omega) p12
          have p19 : f 19 = true := edge_on (by kernel_rfl) hp
          have q19 : x 19 = .int .i64 z := hQ 19 (by omega) p19
          have p20 : f 20 = true := edge_on (by kernel_rfl) hp
          have q20 : x 20 = .int .i64 z := hQ 20 (by omega) p20
          rw [if_pos (by simp [Region.wanted, yielded, q12])]
          go_simp
          have key := hK _ _ rfl (Below.refl _ _)
          simp [setX, q12, q19, q20] at key
          exact key
        · simp at ho
          subst ho
          have p12 : f 12 = true := edge_on (by kernel_rfl) hp
          have q12 : x 12 = .bool true := hQ 12 (by omega) p12
          have p21 : f 21 = true := edge_on (by kernel_rfl) hp
          have q21 : x 21 = .bool true := hQ 21 (by omega) p21
          rw [if_pos (by rfl)]
          go_simp
          have key := hK _ _ rfl (Below.refl _ _)
          simp [setX, q12, q21] at key
          exact key
        · simp at ho
          subst ho
          have p22 : f 22 = true := edge_on (by kernel_rfl) hp
          have q22 : x 22 = .bool true := hQ 22 (by omega) p22
          rw [if_pos (by rfl)]
          go_simp
          have key := hK _ _ rfl (Below.refl _ _)
          simp [setX, q22] at key
          exact key
      · intro x w4 hG hQ
        subst hFr
        have q23 : x 23 = .bool true := hQ 23 (by omega)
        go_wp2
        go_ret
        exact ⟨by show Ending.returned (x 23) = _; rw [q23], below_trans' hB.out hG⟩

/-! ### THE ROW's STEP: WRITTEN OUT: LEAVE IT -/
set_option maxRecDepth 100000 in
theorem lifted (os : Os) (started : os.Started) (H : Type) (enc : TypeId × Value → H) :
    ReturnsInHanded {} Try.checked os 5 .any (Rows.fnSignNumberSpec.pre6 enc Try.prog Try.f5 Rows.fnSignNumberRow.domain false) (Rows.fnSignNumberSpec.post enc Try.prog Try.f5 false true false false) := by
  refine returnsInHanded_of_change (C := Try.checked) own started (by kernel_rfl) Try.func5
    (ChangeSpec.witness6 (enc := enc) (C := Try.checked) false ⟨#[], #[.slice none 0 0], []⟩ 8 (by kernel_rfl) (by kernel_rfl) (by kernel_rfl) (by kernel_rfl)) ?_
  intro W base args ds gs before hval0 hW hcnd _
  have hval : ∀ (j : Nat) t v, Try.f5.params[j]? = some t → args[j]? = some v → Value.okWide Try.prog W .any base t v := hval0
  have hW' := hW
  obtain ⟨p, q, hA0, hV, rfl, hfz, hnd⟩ := hW
  have hA : DataW.TrodAll enc Try.prog W 0 (fun _ => true) true Try.f5.params.toList args.toList ds p := hA0
  rw [Try.params5] at hA hval
  obtain ⟨v0, vs0, d0, ds0, p0, q0, hargs, rfl, rfl, h0, r0⟩ := trodAll_cons hA
  obtain ⟨rfl, rfl, rfl⟩ := trodAll_nil r0
  obtain rfl : args = #[v0] := by cases args; simp_all
  obtain ⟨rfl, rfl⟩ := trodVars_none hV
  obtain ⟨a0, len0, cap0, rfl⟩ := okWide_slice Try.underlying22 (hval 0 22 v0 rfl rfl)
  have k0 := h0
  have lt0 : ∀ x ∈ p0, x.block < W.heap.size := by obtain ⟨m, hm⟩ := k0; exact DataW.trod_lt m _ _ _ hm
  obtain ⟨z0, w0⟩ : ∃ zs, IsRow .u8 W a0 len0 cap0 zs := by
    obtain ⟨fuel, hf⟩ := h0
    rcases open_ints Try.underlying22 Try.underlying5 (by kernel_rfl) hf with ⟨hcs, _⟩ | ⟨x, l, c, zs, hcs, _, hl, hm, hz, _, hcell, hwz⟩
    · simp [Value.cells] at hcs
      obtain ⟨rfl, rfl, rfl⟩ := hcs
      exact ⟨[], .inl ⟨rfl, rfl, rfl, rfl⟩⟩
    · simp [Value.cells] at hcs
      obtain ⟨rfl, rfl, rfl⟩ := hcs
      exact ⟨zs, .inr ⟨_, rfl, hl, hm, by simpa using hz, hcell, hwz⟩⟩
  clear hA0 hval0
  refine (walk a0 len0 cap0 z0 W w0).mono fun e W' ⟨he, bel⟩ => ?_
  subst he
  exact ⟨_, rfl, _, _, _, [], _, [], hW', trodAll_mk1 (shut_bool Try.underlying4 _), (trodAll_cons_mk (Below.trod laidOut (by kernel_rfl) (of_decide_eq_true (by kernel_rfl)) k0 bel lt0) trodAll_mk0), rfl, bel.frame _, fun h => by cases h⟩

theorem over : Rows.fnSignNumberRow.holds Try.pinned (OpenSpec.ofChange Rows.fnSignNumberSpec) :=
  OpenClaim.holds_of_wide 5 Try.f5 rfl rfl rfl rfl rfl rfl rfl ⟨rfl, rfl, rfl, rfl, rfl⟩ rfl rfl rfl rfl rfl (by kernel_rfl) Try.func5 (by kernel_rfl)
    (of_decide_eq_true (by kernel_rfl)) (by unfold Func.isWrapper; first | (rw [if_pos (by decide +kernel)]; kernel_rfl) | (rw [if_neg (by decide +kernel)]; exact ⟨rfl, rfl⟩))
    (fun os started H enc _ => lifted os started H enc)

/-- ████ THE STATEMENT ████ -/
theorem proved : Rows.FnSignNumberSaid := over
#print axioms proved
end Go.Proofs.Ythjjagfghbljpaa.fnSignNumber
