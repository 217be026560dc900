/-
  The verifier's own text: DMod DMod2 DDg DDg2 DKy DKy2 DKy3 DSg DSg2 DSg3.
-/
import Derived.Test.YtehoilnnknmhnaaRows
import Derived.Test.YtehoilnnknmhnaaJB
import Derived.Test.YtehoilnnknmhnaaGh
import Derived.Test.YtehoilnnknmhnaaGb
import Derived.IntWalk
import Derived.Deep.DeepCutAuto
import Derived.Test.YtehoilnnknmhnaaJH
import Derived.Test.YtehoilnnknmhnaaGs
import Derived.Test.YtehoilnnknmhnaaHE
import Derived.Test.YtehoilnnknmhnaaHA
import Derived.Test.YtehoilnnknmhnaaGn
import Derived.Test.YtehoilnnknmhnaaJC
import Derived.Test.YtehoilnnknmhnaaHB
import Derived.WalkKit
import Derived.ProofKit
import Derived.Below
import Derived.Lib.Hide
import Derived.Outline
import Derived.BigQuiet
import Derived.Deep.QuietTactic
import Derived.Deep.Draws
import Derived.Laws.OwnMore
import Derived.Laws.Rows
import Derived.WalkSpells
import Derived.Deep.RegionWith
namespace Go.Proofs.Ytehoilnnknmhnaa
open Go.RowKit
set_option linter.unusedVariables false
theorem mul_nn {x y b d : Int} (h0 : 0 ≤ x) (h1 : x ≤ b) (h2 : 0 ≤ y) (h3 : y ≤ d) : 0 ≤ x * y ∧ x * y ≤ b * d :=
  ⟨Int.mul_nonneg h0 h2, Int.le_trans (Int.mul_le_mul_of_nonneg_right h1 h2) (Int.mul_le_mul_of_nonneg_left h3 (by omega))⟩
theorem mod_rng {x y : Int} (h0 : 0 ≤ x) (h1 : 0 < y) : 0 ≤ x % y ∧ x % y ≤ y - 1 ∧ x % y ≤ x := by
  have a := Int.emod_nonneg x (b := y) (by omega)
  have b := Int.emod_lt_of_pos x (b := y) h1
  refine ⟨a, by omega, ?_⟩
  have c : x / y * y + x % y = x := Int.ediv_mul_add_emod x y
  have d := Int.mul_nonneg (Int.ediv_nonneg h0 (Int.le_of_lt h1)) (Int.le_of_lt h1)
  omega
def DrewIn (lo hi : Int) (W w : World) (g m : Nat) (e : Ending) (w' : World) : Prop := ∃ v : Int, e = .returned (.int .i64 v) ∧ lo ≤ v ∧ v ≤ hi ∧ Rd W w' g m ∧ w.grownBy w' (some g)
/-- what the operations of the region yield -/
def QModu (B g : Nat) (j : Nat) (v : Value) (w : World) : Prop :=
  match j with
  | 0 => v = .pointer (some ⟨g, 0, none⟩)
  | 1 => IntIn 0 59 v
  | 2 => IntIn 2 61 v
  | 3 => IntLit B g 7 0 1000001 v w
  | 4 => IntLit B g 10 0 6 v w
  | 5 => v = .pointer (some ⟨g, 0, none⟩)
  | 6 => IntIn 0 9 v
  | 7 => IntAt2 g 0 6 v w
  | 8 => IntIn 0 6 v
  | 9 => IntAt2 g 0 1000001 v w
  | 10 => IntIn 0 1000001 v
  | 11 => IntIn 0 1000001 v
  | _ => False
theorem QModu_mono {B g : Nat} (j : Nat) (v : Value) (w w' : World) (_ : j < 12) (h : QModu B g j v w) (hg : w.grownBy w' (some g)) : QModu B g j v w' := by
  match j, h with
  | 0, h => exact h
  | 1, h => exact h
  | 2, h => exact h
  | 3, h => exact IntLit.mono h hg
  | 4, h => exact IntLit.mono h hg
  | 5, h => exact h
  | 6, h => exact h
  | 7, h => exact IntAt2.mono h hg
  | 8, h => exact h
  | 9, h => exact IntAt2.mono h hg
  | 10, h => exact h
  | 11, h => exact h
set_option maxRecDepth 100000 in
set_option maxHeartbeats 2000000 in
theorem modu_draw (W w : World) (g m : Nat) (hr : Rd W w g m) (hm : m ≤ 999990) :
    Calls Try.prog 25 #[.pointer (some ⟨g, 0, none⟩)] w (DrewIn 0 1000001 W w g (m + 2)) := by
  go_enter Try.func25, Try.ntmps25
  go_upto_region 1 with fail
  obtain ⟨Fr, hFr⟩ : ∃ Fr : (Nat → Value) → Act, Fr = (fun x => { tmps := #[.pointer (some ⟨g, 0, none⟩), undef, x 11, x 0, x 1, x 2, x 3, x 4, x 5, x 6, x 7, x 8, x 9, x 10], defers := [] }) := ⟨_, rfl⟩
  refine pick_region (n := 12) (by kernel_rfl) rfl W g (m) [(1, 1), (6, 1)] Fr
    (QModu w.heap.size g) (by kernel_rfl) (fun j => if j = 11 then .int .i64 0 else undef) (by rw [hFr]; rfl) hr QModu_mono ?_ ?_
  · intro i o f x w2 hi ho hf hp hG hQ K hK
    subst hFr
    have hB : w.heap.size ≤ w2.heap.size := hG.gr.size
    have hcost := cost_all [(1, 1), (6, 1)] f
    have hca : costAll [(1, 1), (6, 1)] = 2 := rfl
    obtain rfl | rfl | rfl | rfl | rfl | rfl | rfl | rfl | rfl | rfl | rfl | rfl : i = 0 ∨ i = 1 ∨ i = 2 ∨ i = 3 ∨ i = 4 ∨ i = 5 ∨ i = 6 ∨ i = 7 ∨ i = 8 ∨ i = 9 ∨ i = 10 ∨ i = 11 := by omega
    · simp at ho
      subst ho
      rw [if_pos (by rfl)]
      go_simp
      have key := hK _ _ rfl (grown_refl _ _) (hG.step 0)
      simp [setX] at key
      exact key
    · simp at ho
      subst ho
      have p0 : f 0 = true := hp { on := 0, ground := .data } (by simp) rfl
      have q0 := hQ 0 (by omega) p0
      have q0 : x 0 = .pointer (some ⟨g, 0, none⟩) := q0
      rw [if_pos (by rfl)]
      go_simp
      refine (pick_any W _ g (m + costF [(1, 1), (6, 1)] f) 60 hG.rd' (by omega)).mono ?_
      rintro e w' ⟨v, v0, v1, _, rfl, hr', hg'⟩
      have key := hK _ _ ⟨v, rfl, v0, by have := v1 (by omega); omega⟩ hg' (hG.call (i := 1) (c := 1) (by simp) hf hr' hg')
      simp [setX, q0] at key
      exact key
    · simp at ho
      subst ho
      have p1 : f 1 = true := hp { on := 1, ground := .data } (by simp) rfl
      have q1 := hQ 1 (by omega) p1
      obtain ⟨z1, h1, l1, m1⟩ := q1
      have iw := IntWalk.i64_in (2 + z1) (by omega)
      rw [if_pos (by rfl)]
      go_simp
      have key := hK _ _ ⟨(2 + z1), rfl, by omega, by omega⟩ (grown_refl _ _) (hG.step 2)
      simp [setX, h1] at key
      exact key
    · simp at ho
      subst ho
      have p2 : f 2 = true := hp { on := 2, ground := .data } (by simp) rfl
      have q2 := hQ 2 (by omega) p2
      obtain ⟨z2, h2, l2, m2⟩ := q2
      rw [if_pos (by rfl)]
      go_simp
      have key := hK (.slice (some ⟨w2.heap.size, 0, none⟩) 7 7) (w2.alloc (.cells #[.int .i64 z2, .int .i64 1000000, .int .i64 97, .int .i64 3233, .int .i64 1, .int .i64 0, .int .i64 1000001] 3)) (IntLit.new rfl (intRow_cons (by omega) (by omega) (intRow_cons (by omega) (by omega) (intRow_cons (by omega) (by omega) (intRow_cons (by omega) (by omega) (intRow_cons (by omega) (by omega) (intRow_cons (by omega) (by omega) (intRow_cons (by omega) (by omega) (intRow_nil)))))))) hB hG.lt) (grown_alloc _ _ _) (hG.alloc _ 3)
      simp [setX, h2] at key
      exact key
    · simp at ho
      subst ho
      rw [if_pos (by rfl)]
      go_simp
      have key := hK (.slice (some ⟨w2.heap.size, 0, none⟩) 10 10) (w2.alloc (.cells #[.int .i64 0, .int .i64 0, .int .i64 0, .int .i64 0, .int .i64 1, .int .i64 2, .int .i64 3, .int .i64 4, .int .i64 5, .int .i64 6] 3)) (IntLit.new rfl (intRow_cons (by omega) (by omega) (intRow_cons (by omega) (by omega) (intRow_cons (by omega) (by omega) (intRow_cons (by omega) (by omega) (intRow_cons (by omega) (by omega) (intRow_cons (by omega) (by omega) (intRow_cons (by omega) (by omega) (intRow_cons (by omega) (by omega) (intRow_cons (by omega) (by omega) (intRow_cons (by omega) (by omega) (intRow_nil))))))))))) hB hG.lt) (grown_alloc _ _ _) (hG.alloc _ 4)
      simp [setX] at key
      exact key
    · simp at ho
      subst ho
      rw [if_pos (by rfl)]
      go_simp
      have key := hK _ _ rfl (grown_refl _ _) (hG.step 5)
      simp [setX] at key
      exact key
    · simp at ho
      subst ho
      have p5 : f 5 = true := hp { on := 5, ground := .data } (by simp) rfl
      have q5 := hQ 5 (by omega) p5
      have q5 : x 5 = .pointer (some ⟨g, 0, none⟩) := q5
      rw [if_pos (by rfl)]
      go_simp
      refine (pick_any W _ g (m + costF [(1, 1), (6, 1)] f) 10 hG.rd' (by omega)).mono ?_
      rintro e w' ⟨v, v0, v1, _, rfl, hr', hg'⟩
      have key := hK _ _ ⟨v, rfl, v0, by have := v1 (by omega); omega⟩ hg' (hG.call (i := 6) (c := 1) (by simp) hf hr' hg')
      simp [setX, q5] at key
      exact key
    · simp at ho
      subst ho
      have p4 : f 4 = true := hp { on := 4, ground := .data } (by simp) rfl
      have q4 := hQ 4 (by omega) p4
      have p6 : f 6 = true := hp { on := 6, ground := .data } (by simp) rfl
      have q6 := hQ 6 (by omega) p6
      obtain ⟨z6, h6, l6, m6⟩ := q6
      obtain ⟨b, hb, hs⟩ := IntLit.at q4 (z := z6) (by omega) (by omega)
      have hiz : (z6 : Int) < 10 := by omega
      have hi0 : (0 : Int) ≤ z6 := by omega
      rw [if_pos (by rfl)]
      go_simp
      have key := hK _ _ hs (grown_refl _ _) (hG.step 7)
      simp [setX, h6, hb] at key
      exact key
    · simp at ho
      subst ho
      have p7 : f 7 = true := hp { on := 7, ground := .data } (by simp) rfl
      have q7 := hQ 7 (by omega) p7
      obtain ⟨b, jj, s, hx, _, _, hc, hs, ht⟩ := q7
      rw [if_pos (by rfl)]
      go_simp
      have key := hK _ _ ⟨s, rfl, hs, ht⟩ (grown_refl _ _) (hG.step 8)
      simp [setX, hx] at key
      exact key
    · simp at ho
      subst ho
      have p3 : f 3 = true := hp { on := 3, ground := .data } (by simp) rfl
      have q3 := hQ 3 (by omega) p3
      have p8 : f 8 = true := hp { on := 8, ground := .data } (by simp) rfl
      have q8 := hQ 8 (by omega) p8
      obtain ⟨z8, h8, l8, m8⟩ := q8
      obtain ⟨b, hb, hs⟩ := IntLit.at q3 (z := z8) (by omega) (by omega)
      have hiz : (z8 : Int) < 7 := by omega
      have hi0 : (0 : Int) ≤ z8 := by omega
      rw [if_pos (by rfl)]
      go_simp
      have key := hK _ _ hs (grown_refl _ _) (hG.step 9)
      simp [setX, h8, hb] at key
      exact key
    · simp at ho
      subst ho
      have p9 : f 9 = true := hp { on := 9, ground := .data } (by simp) rfl
      have q9 := hQ 9 (by omega) p9
      obtain ⟨b, jj, s, hx, _, _, hc, hs, ht⟩ := q9
      rw [if_pos (by rfl)]
      go_simp
      have key := hK _ _ ⟨s, rfl, hs, ht⟩ (grown_refl _ _) (hG.step 10)
      simp [setX, hx] at key
      exact key
    · simp at ho
      subst ho
      have p10 : f 10 = true := hp { on := 10, ground := .data } (by simp) rfl
      have q10 := hQ 10 (by omega) p10
      obtain ⟨z10, h10, l10, m10⟩ := q10
      rw [if_pos (by rfl)]
      go_simp
      have key := hK _ _ ⟨z10, rfl, l10, m10⟩ (grown_refl _ _) (hG.step 11)
      simp [setX, h10] at key
      exact key
  · intro x w9 hr9 hg9 hQ
    subst hFr
    obtain ⟨z11, h11, l11, m11⟩ : IntIn 0 1000001 (x 11) := hQ 11 (by omega)
    clear hQ
    go_wp2
    go_ret
    exact ⟨z11, by simp [h11], l11, m11, hr9, hg9⟩
/-- what the operations of the region yield -/
def QBelo (B g : Nat) (n : Int) (j : Nat) (v : Value) (w : World) : Prop :=
  match j with
  | 0 => v = .pointer (some ⟨g, 0, none⟩)
  | 1 => IntIn 0 255 v
  | 2 => IntIn 0 996285 v
  | 3 => v = .int .i64 n
  | 4 => IntIn 1 1000001 v
  | 5 => IntIn 0 996285 v
  | 6 => v = .pointer (some ⟨g, 0, none⟩)
  | 7 => IntIn 0 13 v
  | 8 => IntIn 0 1 v
  | 9 => v = .int .i64 n
  | 10 => IntIn 0 1000001 v
  | 11 => IntIn 0 1996286 v
  | 12 => IntIn 0 1996286 v
  | _ => False
theorem QBelo_mono {B g : Nat} {n : Int} (j : Nat) (v : Value) (w w' : World) (_ : j < 13) (h : QBelo B g n j v w) (hg : w.grownBy w' (some g)) : QBelo B g n j v w' := by
  match j, h with
  | 0, h => exact h
  | 1, h => exact h
  | 2, h => exact h
  | 3, h => exact h
  | 4, h => exact h
  | 5, h => exact h
  | 6, h => exact h
  | 7, h => exact h
  | 8, h => exact h
  | 9, h => exact h
  | 10, h => exact h
  | 11, h => exact h
  | 12, h => exact h
set_option maxRecDepth 100000 in
set_option maxHeartbeats 2000000 in
theorem belo_draw (W w : World) (g m : Nat) (n : Int) (hr : Rd W w g m) (hm : m ≤ 999990) (n0 : 0 ≤ n) (n1 : n ≤ 1000001) :
    Calls Try.prog 26 #[.pointer (some ⟨g, 0, none⟩), .int .i64 n] w (DrewIn 0 2000002 W w g (m + 2)) := by
  go_enter Try.func26, Try.ntmps26
  go_upto_region 1 with fail
  obtain ⟨Fr, hFr⟩ : ∃ Fr : (Nat → Value) → Act, Fr = (fun x => { tmps := #[.pointer (some ⟨g, 0, none⟩), .int .i64 n, undef, undef, x 12, x 0, x 1, x 2, x 3, x 4, x 5, x 6, x 7, x 8, x 9, x 10, x 11], defers := [] }) := ⟨_, rfl⟩
  refine pick_region (n := 13) (by kernel_rfl) rfl W g (m) [(1, 1), (7, 1)] Fr
    (QBelo w.heap.size g n) (by kernel_rfl) (fun j => if j = 12 then .int .i64 0 else undef) (by rw [hFr]; rfl) hr QBelo_mono ?_ ?_
  · intro i o f x w2 hi ho hf hp hG hQ K hK
    subst hFr
    have hB : w.heap.size ≤ w2.heap.size := hG.gr.size
    have hcost := cost_all [(1, 1), (7, 1)] f
    have hca : costAll [(1, 1), (7, 1)] = 2 := rfl
    obtain rfl | rfl | rfl | rfl | rfl | rfl | rfl | rfl | rfl | rfl | rfl | rfl | rfl : i = 0 ∨ i = 1 ∨ i = 2 ∨ i = 3 ∨ i = 4 ∨ i = 5 ∨ i = 6 ∨ i = 7 ∨ i = 8 ∨ i = 9 ∨ i = 10 ∨ i = 11 ∨ i = 12 := by omega
    · simp at ho
      subst ho
      rw [if_pos (by rfl)]
      go_simp
      have key := hK _ _ rfl (grown_refl _ _) (hG.step 0)
      simp [setX] at key
      exact key
    · simp at ho
      subst ho
      have p0 : f 0 = true := hp { on := 0, ground := .data } (by simp) rfl
      have q0 := hQ 0 (by omega) p0
      have q0 : x 0 = .pointer (some ⟨g, 0, none⟩) := q0
      rw [if_pos (by rfl)]
      go_simp
      refine (pick_any W _ g (m + costF [(1, 1), (7, 1)] f) 256 hG.rd' (by omega)).mono ?_
      rintro e w' ⟨v, v0, v1, _, rfl, hr', hg'⟩
      have key := hK _ _ ⟨v, rfl, v0, by have := v1 (by omega); omega⟩ hg' (hG.call (i := 1) (c := 1) (by simp) hf hr' hg')
      simp [setX, q0] at key
      exact key
    · simp at ho
      subst ho
      have p1 : f 1 = true := hp { on := 1, ground := .data } (by simp) rfl
      have q1 := hQ 1 (by omega) p1
      obtain ⟨z1, h1, l1, m1⟩ := q1
      have iw := IntWalk.i64_in (z1 * 3907) (by omega)
      rw [if_pos (by rfl)]
      go_simp
      have key := hK _ _ ⟨(z1 * 3907), rfl, by omega, by omega⟩ (grown_refl _ _) (hG.step 2)
      simp [setX, h1] at key
      exact key
    · simp at ho
      subst ho
      rw [if_pos (by rfl)]
      go_simp
      have key := hK _ _ rfl (grown_refl _ _) (hG.step 3)
      simp [setX] at key
      exact key
    · simp at ho
      subst ho
      have p3 : f 3 = true := hp { on := 3, ground := .data } (by simp) rfl
      have q3 := hQ 3 (by omega) p3
      have q3 : x 3 = .int .i64 n := q3
      rw [if_pos (by rfl)]
      go_simp
      have key := hK _ _ ⟨max 1 n, rfl, by omega, by omega⟩ (grown_refl _ _) (hG.step 4)
      simp [setX, q3] at key
      exact key
    · simp at ho
      subst ho
      have p2 : f 2 = true := hp { on := 2, ground := .data } (by simp) rfl
      have q2 := hQ 2 (by omega) p2
      obtain ⟨z2, h2, l2, m2⟩ := q2
      have p4 : f 4 = true := hp { on := 4, ground := .data } (by simp) rfl
      have q4 := hQ 4 (by omega) p4
      obtain ⟨z4, h4, l4, m4⟩ := q4
      have i5 : (z2).tmod z4 = z2 % z4 := Int.tmod_eq_emod_of_nonneg (by omega)
      have hmn := mod_rng (x := z2) (y := z4) (by omega) (by omega)
      have hy0 : ¬ z4 = 0 := by omega
      have iw := IntWalk.i64_in (z2 % z4) (by omega)
      rw [if_pos (by rfl)]
      go_simp
      have key := hK _ _ ⟨z2 % z4, rfl, by omega, by omega⟩ (grown_refl _ _) (hG.step 5)
      simp [setX, h2, h4] at key
      exact key
    · simp at ho
      subst ho
      rw [if_pos (by rfl)]
      go_simp
      have key := hK _ _ rfl (grown_refl _ _) (hG.step 6)
      simp [setX] at key
      exact key
    · simp at ho
      subst ho
      have p6 : f 6 = true := hp { on := 6, ground := .data } (by simp) rfl
      have q6 := hQ 6 (by omega) p6
      have q6 : x 6 = .pointer (some ⟨g, 0, none⟩) := q6
      rw [if_pos (by rfl)]
      go_simp
      refine (pick_any W _ g (m + costF [(1, 1), (7, 1)] f) 14 hG.rd' (by omega)).mono ?_
      rintro e w' ⟨v, v0, v1, _, rfl, hr', hg'⟩
      have key := hK _ _ ⟨v, rfl, v0, by have := v1 (by omega); omega⟩ hg' (hG.call (i := 7) (c := 1) (by simp) hf hr' hg')
      simp [setX, q6] at key
      exact key
    · simp at ho
      subst ho
      have p7 : f 7 = true := hp { on := 7, ground := .data } (by simp) rfl
      have q7 := hQ 7 (by omega) p7
      obtain ⟨z7, h7, l7, m7⟩ := q7
      have i5 : (z7).tdiv 13 = z7 / 13 := Int.tdiv_eq_ediv_of_nonneg (by omega)
      have iw := IntWalk.i64_in (z7 / 13) (by omega)
      rw [if_pos (by rfl)]
      go_simp
      have key := hK _ _ ⟨z7 / 13, rfl, by omega, by omega⟩ (grown_refl _ _) (hG.step 8)
      simp [setX, h7] at key
      exact key
    · simp at ho
      subst ho
      rw [if_pos (by rfl)]
      go_simp
      have key := hK _ _ rfl (grown_refl _ _) (hG.step 9)
      simp [setX] at key
      exact key
    · simp at ho
      subst ho
      have p8 : f 8 = true := hp { on := 8, ground := .data } (by simp) rfl
      have q8 := hQ 8 (by omega) p8
      obtain ⟨z8, h8, l8, m8⟩ := q8
      have p9 : f 9 = true := hp { on := 9, ground := .data } (by simp) rfl
      have q9 := hQ 9 (by omega) p9
      have q9 : x 9 = .int .i64 n := q9
      have hmul := mul_nn (x := z8) (y := n) (b := 1) (d := 1000001) (by omega) (by omega) (by omega) (by omega)
      have iw := IntWalk.i64_in (z8 * n) (by omega)
      rw [if_pos (by rfl)]
      go_simp
      have key := hK _ _ ⟨(z8 * n), rfl, by omega, by omega⟩ (grown_refl _ _) (hG.step 10)
      simp [setX, h8, q9] at key
      exact key
    · simp at ho
      subst ho
      have p5 : f 5 = true := hp { on := 5, ground := .data } (by simp) rfl
      have q5 := hQ 5 (by omega) p5
      obtain ⟨z5, h5, l5, m5⟩ := q5
      have p10 : f 10 = true := hp { on := 10, ground := .data } (by simp) rfl
      have q10 := hQ 10 (by omega) p10
      obtain ⟨z10, h10, l10, m10⟩ := q10
      have iw := IntWalk.i64_in (z5 + z10) (by omega)
      rw [if_pos (by rfl)]
      go_simp
      have key := hK _ _ ⟨(z5 + z10), rfl, by omega, by omega⟩ (grown_refl _ _) (hG.step 11)
      simp [setX, h5, h10] at key
      exact key
    · simp at ho
      subst ho
      have p11 : f 11 = true := hp { on := 11, ground := .data } (by simp) rfl
      have q11 := hQ 11 (by omega) p11
      obtain ⟨z11, h11, l11, m11⟩ := q11
      rw [if_pos (by rfl)]
      go_simp
      have key := hK _ _ ⟨z11, rfl, l11, m11⟩ (grown_refl _ _) (hG.step 12)
      simp [setX, h11] at key
      exact key
  · intro x w9 hr9 hg9 hQ
    subst hFr
    obtain ⟨z12, h12, l12, m12⟩ : IntIn 0 1996286 (x 12) := hQ 12 (by omega)
    clear hQ
    go_wp2
    go_ret
    exact ⟨z12, by simp [h12], l12, by omega, hr9, hg9⟩
set_option maxRecDepth 100000 in
set_option maxHeartbeats 2000000 in
theorem drawMul_any (w : World) (A : Option Addr) (n c : Nat) (h : CodeArg w A n c) : Calls Try.prog 11 #[.slice A n c] w (DrawnInt3 w) := by
  go_enter Try.func11, Try.ntmps11
  go_wp2_with (first | (go_at_call 24; refine (open_any w A n c h).mono ?_; rintro e w2 ⟨rfl, hr2⟩) | (go_at_call 25; refine (modu_draw w _ w.heap.size 0 hr2 (by omega)).mono ?_; rintro e w3 ⟨mm, rfl, m0, m1, hr3, hg3⟩) | fail)
  refine (belo_draw w _ w.heap.size _ mm hr3 (by omega) m0 m1).mono ?_
  rintro e w4 ⟨a, rfl, a0, a1, hr4, hg4⟩
  go_wp2_with fail
  try go_quiet (fail)
  refine (belo_draw w _ w.heap.size _ mm hr4 (by omega) m0 m1).mono ?_
  rintro e w5 ⟨b, rfl, b0, b1, hr5, hg5⟩
  go_wp2
  go_ret3
  exact ⟨a, b, mm, rfl, hr5.bel⟩
/-- what the operations of the region yield -/
def QPowD (B g : Nat) (mm : Int) (aa : Int) (j : Nat) (v : Value) (w : World) : Prop :=
  match j with
  | 0 => v = .int .i64 aa
  | 1 => v = .pointer (some ⟨g, 0, none⟩)
  | 2 => IntIn 0 19 v
  | 3 => v = .pointer (some ⟨g, 0, none⟩)
  | 4 => IntIn 0 255 v
  | 5 => IntIn 0 765000 v
  | 6 => IntLit B g 4 (-1) 1000000000 v w
  | 7 => IntLit B g 7 0 3 v w
  | 8 => v = .pointer (some ⟨g, 0, none⟩)
  | 9 => IntIn 0 6 v
  | 10 => IntAt2 g 0 3 v w
  | 11 => IntIn 0 3 v
  | 12 => IntAt2 g (-1) 1000000000 v w
  | 13 => IntIn (-1) 1000000000 v
  | 14 => v = .int .i64 mm
  | 15 => v = .int .i64 aa
  | 16 => IntIn (-1) 1000000000 v
  | 17 => v = .int .i64 mm
  | _ => False
theorem QPowD_mono {B g : Nat} {mm : Int} {aa : Int} (j : Nat) (v : Value) (w w' : World) (_ : j < 18) (h : QPowD B g mm aa j v w) (hg : w.grownBy w' (some g)) : QPowD B g mm aa j v w' := by
  match j, h with
  | 0, h => exact h
  | 1, h => exact h
  | 2, h => exact h
  | 3, h => exact h
  | 4, h => exact h
  | 5, h => exact h
  | 6, h => exact IntLit.mono h hg
  | 7, h => exact IntLit.mono h hg
  | 8, h => exact h
  | 9, h => exact h
  | 10, h => exact IntAt2.mono h hg
  | 11, h => exact h
  | 12, h => exact IntAt2.mono h hg
  | 13, h => exact h
  | 14, h => exact h
  | 15, h => exact h
  | 16, h => exact h
  | 17, h => exact h
set_option maxRecDepth 100000 in
set_option maxHeartbeats 4000000 in
theorem drawPow_any (w : World) (A : Option Addr) (n c : Nat) (h : CodeArg w A n c) : Calls Try.prog 15 #[.slice A n c] w (DrawnInt3 w) := by
  go_enter Try.func15, Try.ntmps15
  go_wp2_with (first | (go_at_call 24; refine (open_any w A n c h).mono ?_; rintro e w2 ⟨rfl, hr2⟩) | (go_at_call 25; refine (modu_draw w _ w.heap.size 0 hr2 (by omega)).mono ?_; rintro e w3 ⟨mm, rfl, mm0, mm1, hr3, hg3⟩) | fail)
  refine (belo_draw w _ w.heap.size _ mm hr3 (by omega) mm0 mm1).mono ?_
  rintro e w4 ⟨aa, rfl, aa0, aa1, hr4, hg4⟩
  go_upto_region 4 with fail
  obtain ⟨Fr, hFr⟩ : ∃ Fr : (Nat → Value) → Act, Fr = (fun x => { tmps := #[.slice A n c, undef, x 15, x 16, x 17, .pointer (some ⟨w.heap.size, 0, none⟩), .int .i64 mm, .int .i64 aa, .slice A n c, .pointer (some ⟨w.heap.size, 0, none⟩), .pointer (some ⟨w.heap.size, 0, none⟩), .int .i64 mm, .pointer (some ⟨w.heap.size, 0, none⟩), .int .i64 mm, .int .i64 aa, x 0, x 1, x 2, x 3, x 4, x 5, x 6, x 7, x 8, x 9, x 10, x 11, x 12, x 13, x 14], defers := [] }) := ⟨_, rfl⟩
  refine pick_region (n := 18) (by kernel_rfl) rfl w w.heap.size (4) [(2, 1), (4, 1), (9, 1)] Fr
    (QPowD w4.heap.size w.heap.size mm aa) (by kernel_rfl) (fun j => if j = 15 then .int .i64 0 else if j = 16 then .int .i64 0 else if j = 17 then .int .i64 0 else undef) (by rw [hFr]; rfl) hr4 QPowD_mono ?_ ?_
  · intro i o f x wx hi ho hf hp hG hQ K hK
    subst hFr
    have hB : w4.heap.size ≤ wx.heap.size := hG.gr.size
    have hcost := cost_all [(2, 1), (4, 1), (9, 1)] f
    have hca : costAll [(2, 1), (4, 1), (9, 1)] = 3 := rfl
    obtain rfl | rfl | rfl | rfl | rfl | rfl | rfl | rfl | rfl | rfl | rfl | rfl | rfl | rfl | rfl | rfl | rfl | rfl : i = 0 ∨ i = 1 ∨ i = 2 ∨ i = 3 ∨ i = 4 ∨ i = 5 ∨ i = 6 ∨ i = 7 ∨ i = 8 ∨ i = 9 ∨ i = 10 ∨ i = 11 ∨ i = 12 ∨ i = 13 ∨ i = 14 ∨ i = 15 ∨ i = 16 ∨ i = 17 := by omega
    · simp at ho
      subst ho
      rw [if_pos (by rfl)]
      go_simp
      have key := hK _ _ rfl (grown_refl _ _) (hG.step 0)
      simp [setX] at key
      exact key
    · simp at ho
      subst ho
      rw [if_pos (by rfl)]
      go_simp
      have key := hK _ _ rfl (grown_refl _ _) (hG.step 1)
      simp [setX] at key
      exact key
    · simp at ho
      subst ho
      have p1 : f 1 = true := hp { on := 1, ground := .data } (by simp) rfl
      have q1 := hQ 1 (by omega) p1
      have q1 : x 1 = .pointer (some ⟨w.heap.size, 0, none⟩) := q1
      rw [if_pos (by rfl)]
      go_simp
      refine (pick_any w _ w.heap.size (4 + costF [(2, 1), (4, 1), (9, 1)] f) 20 hG.rd' (by omega)).mono ?_
      rintro e w' ⟨v, v0, v1, _, rfl, hr', hg'⟩
      have key := hK _ _ ⟨v, rfl, v0, by have := v1 (by omega); omega⟩ hg' (hG.call (i := 2) (c := 1) (by simp) hf hr' hg')
      simp [setX, q1] at key
      exact key
    · simp at ho
      subst ho
      rw [if_pos (by rfl)]
      go_simp
      have key := hK _ _ rfl (grown_refl _ _) (hG.step 3)
      simp [setX] at key
      exact key
    · simp at ho
      subst ho
      have p3 : f 3 = true := hp { on := 3, ground := .data } (by simp) rfl
      have q3 := hQ 3 (by omega) p3
      have q3 : x 3 = .pointer (some ⟨w.heap.size, 0, none⟩) := q3
      rw [if_pos (by rfl)]
      go_simp
      refine (pick_any w _ w.heap.size (4 + costF [(2, 1), (4, 1), (9, 1)] f) 256 hG.rd' (by omega)).mono ?_
      rintro e w' ⟨v, v0, v1, _, rfl, hr', hg'⟩
      have key := hK _ _ ⟨v, rfl, v0, by have := v1 (by omega); omega⟩ hg' (hG.call (i := 4) (c := 1) (by simp) hf hr' hg')
      simp [setX, q3] at key
      exact key
    · simp at ho
      subst ho
      have p4 : f 4 = true := hp { on := 4, ground := .data } (by simp) rfl
      have q4 := hQ 4 (by omega) p4
      obtain ⟨z4, h4, l4, m4⟩ := q4
      have iw := IntWalk.i64_in (z4 * 3000) (by omega)
      rw [if_pos (by rfl)]
      go_simp
      have key := hK _ _ ⟨(z4 * 3000), rfl, by omega, by omega⟩ (grown_refl _ _) (hG.step 5)
      simp [setX, h4] at key
      exact key
    · simp at ho
      subst ho
      have p2 : f 2 = true := hp { on := 2, ground := .data } (by simp) rfl
      have q2 := hQ 2 (by omega) p2
      obtain ⟨z2, h2, l2, m2⟩ := q2
      have p5 : f 5 = true := hp { on := 5, ground := .data } (by simp) rfl
      have q5 := hQ 5 (by omega) p5
      obtain ⟨z5, h5, l5, m5⟩ := q5
      rw [if_pos (by rfl)]
      go_simp
      have key := hK (.slice (some ⟨wx.heap.size, 0, none⟩) 4 4) (wx.alloc (.cells #[.int .i64 z2, .int .i64 z5, .int .i64 1000000000, .int .i64 (-1)] 3)) (IntLit.new rfl (intRow_cons (by omega) (by omega) (intRow_cons (by omega) (by omega) (intRow_cons (by omega) (by omega) (intRow_cons (by omega) (by omega) (intRow_nil))))) hB hG.lt) (grown_alloc _ _ _) (hG.alloc _ 6)
      simp [setX, h2, h5] at key
      exact key
    · simp at ho
      subst ho
      rw [if_pos (by rfl)]
      go_simp
      have key := hK (.slice (some ⟨wx.heap.size, 0, none⟩) 7 7) (wx.alloc (.cells #[.int .i64 0, .int .i64 0, .int .i64 0, .int .i64 1, .int .i64 1, .int .i64 2, .int .i64 3] 3)) (IntLit.new rfl (intRow_cons (by omega) (by omega) (intRow_cons (by omega) (by omega) (intRow_cons (by omega) (by omega) (intRow_cons (by omega) (by omega) (intRow_cons (by omega) (by omega) (intRow_cons (by omega) (by omega) (intRow_cons (by omega) (by omega) (intRow_nil)))))))) hB hG.lt) (grown_alloc _ _ _) (hG.alloc _ 7)
      simp [setX] at key
      exact key
    · simp at ho
      subst ho
      rw [if_pos (by rfl)]
      go_simp
      have key := hK _ _ rfl (grown_refl _ _) (hG.step 8)
      simp [setX] at key
      exact key
    · simp at ho
      subst ho
      have p8 : f 8 = true := hp { on := 8, ground := .data } (by simp) rfl
      have q8 := hQ 8 (by omega) p8
      have q8 : x 8 = .pointer (some ⟨w.heap.size, 0, none⟩) := q8
      rw [if_pos (by rfl)]
      go_simp
      refine (pick_any w _ w.heap.size (4 + costF [(2, 1), (4, 1), (9, 1)] f) 7 hG.rd' (by omega)).mono ?_
      rintro e w' ⟨v, v0, v1, _, rfl, hr', hg'⟩
      have key := hK _ _ ⟨v, rfl, v0, by have := v1 (by omega); omega⟩ hg' (hG.call (i := 9) (c := 1) (by simp) hf hr' hg')
      simp [setX, q8] at key
      exact key
    · simp at ho
      subst ho
      have p7 : f 7 = true := hp { on := 7, ground := .data } (by simp) rfl
      have q7 := hQ 7 (by omega) p7
      have p9 : f 9 = true := hp { on := 9, ground := .data } (by simp) rfl
      have q9 := hQ 9 (by omega) p9
      obtain ⟨z9, h9, l9, m9⟩ := q9
      obtain ⟨b, hb, hs⟩ := IntLit.at q7 (z := z9) (by omega) (by omega)
      have hiz : (z9 : Int) < 7 := by omega
      have hi0 : (0 : Int) ≤ z9 := by omega
      rw [if_pos (by rfl)]
      go_simp
      have key := hK _ _ hs (grown_refl _ _) (hG.step 10)
      simp [setX, h9, hb] at key
      exact key
    · simp at ho
      subst ho
      have p10 : f 10 = true := hp { on := 10, ground := .data } (by simp) rfl
      have q10 := hQ 10 (by omega) p10
      obtain ⟨b, jj, s, hx, _, _, hc, hs, ht⟩ := q10
      rw [if_pos (by rfl)]
      go_simp
      have key := hK _ _ ⟨s, rfl, hs, ht⟩ (grown_refl _ _) (hG.step 11)
      simp [setX, hx] at key
      exact key
    · simp at ho
      subst ho
      have p6 : f 6 = true := hp { on := 6, ground := .data } (by simp) rfl
      have q6 := hQ 6 (by omega) p6
      have p11 : f 11 = true := hp { on := 11, ground := .data } (by simp) rfl
      have q11 := hQ 11 (by omega) p11
      obtain ⟨z11, h11, l11, m11⟩ := q11
      obtain ⟨b, hb, hs⟩ := IntLit.at q6 (z := z11) (by omega) (by omega)
      have hiz : (z11 : Int) < 4 := by omega
      have hi0 : (0 : Int) ≤ z11 := by omega
      rw [if_pos (by rfl)]
      go_simp
      have key := hK _ _ hs (grown_refl _ _) (hG.step 12)
      simp [setX, h11, hb] at key
      exact key
    · simp at ho
      subst ho
      have p12 : f 12 = true := hp { on := 12, ground := .data } (by simp) rfl
      have q12 := hQ 12 (by omega) p12
      obtain ⟨b, jj, s, hx, _, _, hc, hs, ht⟩ := q12
      rw [if_pos (by rfl)]
      go_simp
      have key := hK _ _ ⟨s, rfl, hs, ht⟩ (grown_refl _ _) (hG.step 13)
      simp [setX, hx] at key
      exact key
    · simp at ho
      subst ho
      rw [if_pos (by rfl)]
      go_simp
      have key := hK _ _ rfl (grown_refl _ _) (hG.step 14)
      simp [setX] at key
      exact key
    · simp at ho
      subst ho
      have p0 : f 0 = true := hp { on := 0, ground := .data } (by simp) rfl
      have q0 := hQ 0 (by omega) p0
      have q0 : x 0 = .int .i64 aa := q0
      rw [if_pos (by rfl)]
      go_simp
      have key := hK _ _ rfl (grown_refl _ _) (hG.step 15)
      simp [setX, q0] at key
      exact key
    · simp at ho
      subst ho
      have p13 : f 13 = true := hp { on := 13, ground := .data } (by simp) rfl
      have q13 := hQ 13 (by omega) p13
      obtain ⟨z13, h13, l13, m13⟩ := q13
      rw [if_pos (by rfl)]
      go_simp
      have key := hK _ _ ⟨z13, rfl, l13, m13⟩ (grown_refl _ _) (hG.step 16)
      simp [setX, h13] at key
      exact key
    · simp at ho
      subst ho
      have p14 : f 14 = true := hp { on := 14, ground := .data } (by simp) rfl
      have q14 := hQ 14 (by omega) p14
      have q14 : x 14 = .int .i64 mm := q14
      rw [if_pos (by rfl)]
      go_simp
      have key := hK _ _ rfl (grown_refl _ _) (hG.step 17)
      simp [setX, q14] at key
      exact key
  · intro x w9 hr9 hg9 hQ
    subst hFr
    have h15 : x 15 = .int .i64 aa := hQ 15 (by omega)
    obtain ⟨z16, h16, l16, m16⟩ : IntIn (-1) 1000000000 (x 16) := hQ 16 (by omega)
    have h17 : x 17 = .int .i64 mm := hQ 17 (by omega)
    clear hQ
    go_wp2
    go_ret3
    exact ⟨aa, z16, mm, by simp [h15, h16, h17], hr9.bel⟩
theorem drawInv_any (w : World) (A : Option Addr) (n c : Nat) (h : CodeArg w A n c) : Calls Try.prog 18 #[.slice A n c] w (DrawnInt2 w) := by
  go_enter Try.func18, Try.ntmps18
  go_wp2_with (first | (go_at_call 24; refine (open_any w A n c h).mono ?_; rintro e w2 ⟨rfl, hr2⟩) | (go_at_call 25; refine (modu_draw w _ w.heap.size 0 hr2 (by omega)).mono ?_; rintro e w3 ⟨mm, rfl, m0, m1, hr3, hg3⟩) | fail)
  refine (belo_draw w _ w.heap.size _ mm hr3 (by omega) m0 m1).mono ?_
  rintro e w4 ⟨a, rfl, a0, a1, hr4, hg4⟩
  go_wp2
  go_ret2
  exact ⟨a, mm, rfl, hr4.bel⟩
/-- what the operations of the region yield -/
def QPriD (B g : Nat) (j : Nat) (v : Value) (w : World) : Prop :=
  match j with
  | 0 => v = .pointer (some ⟨g, 0, none⟩)
  | 1 => IntIn 0 255 v
  | 2 => v = .pointer (some ⟨g, 0, none⟩)
  | 3 => IntIn 0 255 v
  | 4 => IntIn 0 1020 v
  | 5 => IntIn 1 1021 v
  | 6 => IntLit B g 6 (-7) 1021 v w
  | 7 => IntLit B g 9 0 5 v w
  | 8 => v = .pointer (some ⟨g, 0, none⟩)
  | 9 => IntIn 0 8 v
  | 10 => IntAt2 g 0 5 v w
  | 11 => IntIn 0 5 v
  | 12 => IntAt2 g (-7) 1021 v w
  | 13 => IntIn (-7) 1021 v
  | 14 => IntIn (-7) 1021 v
  | _ => False
theorem QPriD_mono {B g : Nat} (j : Nat) (v : Value) (w w' : World) (_ : j < 15) (h : QPriD B g j v w) (hg : w.grownBy w' (some g)) : QPriD B g j v w' := by
  match j, h with
  | 0, h => exact h
  | 1, h => exact h
  | 2, h => exact h
  | 3, h => exact h
  | 4, h => exact h
  | 5, h => exact h
  | 6, h => exact IntLit.mono h hg
  | 7, h => exact IntLit.mono h hg
  | 8, h => exact h
  | 9, h => exact h
  | 10, h => exact IntAt2.mono h hg
  | 11, h => exact h
  | 12, h => exact IntAt2.mono h hg
  | 13, h => exact h
  | 14, h => exact h
set_option maxRecDepth 100000 in
set_option maxHeartbeats 2000000 in
theorem drawPri_any (w : World) (A : Option Addr) (n c : Nat) (h : CodeArg w A n c) : Calls Try.prog 21 #[.slice A n c] w (DrawnInt w) := by
  go_enter Try.func21, Try.ntmps21
  go_upto_region 2 with (go_at_call 24; refine (open_any w A n c h).mono ?_; rintro e w2 ⟨rfl, hr2⟩)
  obtain ⟨Fr, hFr⟩ : ∃ Fr : (Nat → Value) → Act, Fr = (fun x => { tmps := #[.slice A n c, undef, x 14, .pointer (some ⟨w.heap.size, 0, none⟩), .slice A n c, .pointer (some ⟨w.heap.size, 0, none⟩), x 0, x 1, x 2, x 3, x 4, x 5, x 6, x 7, x 8, x 9, x 10, x 11, x 12, x 13], defers := [] }) := ⟨_, rfl⟩
  refine pick_region (n := 15) (by kernel_rfl) rfl w w.heap.size (0) [(1, 1), (3, 1), (9, 1)] Fr
    (QPriD w2.heap.size w.heap.size) (by kernel_rfl) (fun j => if j = 14 then .int .i64 0 else undef) (by rw [hFr]; rfl) hr2 QPriD_mono ?_ ?_
  · intro i o f x wx hi ho hf hp hG hQ K hK
    subst hFr
    have hB : w2.heap.size ≤ wx.heap.size := hG.gr.size
    have hcost := cost_all [(1, 1), (3, 1), (9, 1)] f
    have hca : costAll [(1, 1), (3, 1), (9, 1)] = 3 := rfl
    obtain rfl | rfl | rfl | rfl | rfl | rfl | rfl | rfl | rfl | rfl | rfl | rfl | rfl | rfl | rfl : i = 0 ∨ i = 1 ∨ i = 2 ∨ i = 3 ∨ i = 4 ∨ i = 5 ∨ i = 6 ∨ i = 7 ∨ i = 8 ∨ i = 9 ∨ i = 10 ∨ i = 11 ∨ i = 12 ∨ i = 13 ∨ i = 14 := by omega
    · simp at ho
      subst ho
      rw [if_pos (by rfl)]
      go_simp
      have key := hK _ _ rfl (grown_refl _ _) (hG.step 0)
      simp [setX] at key
      exact key
    · simp at ho
      subst ho
      have p0 : f 0 = true := hp { on := 0, ground := .data } (by simp) rfl
      have q0 := hQ 0 (by omega) p0
      have q0 : x 0 = .pointer (some ⟨w.heap.size, 0, none⟩) := q0
      rw [if_pos (by rfl)]
      go_simp
      refine (pick_any w _ w.heap.size (0 + costF [(1, 1), (3, 1), (9, 1)] f) 256 hG.rd' (by omega)).mono ?_
      rintro e w' ⟨v, v0, v1, _, rfl, hr', hg'⟩
      have key := hK _ _ ⟨v, rfl, v0, by have := v1 (by omega); omega⟩ hg' (hG.call (i := 1) (c := 1) (by simp) hf hr' hg')
      simp [setX, q0] at key
      exact key
    · simp at ho
      subst ho
      rw [if_pos (by rfl)]
      go_simp
      have key := hK _ _ rfl (grown_refl _ _) (hG.step 2)
      simp [setX] at key
      exact key
    · simp at ho
      subst ho
      have p2 : f 2 = true := hp { on := 2, ground := .data } (by simp) rfl
      have q2 := hQ 2 (by omega) p2
      have q2 : x 2 = .pointer (some ⟨w.heap.size, 0, none⟩) := q2
      rw [if_pos (by rfl)]
      go_simp
      refine (pick_any w _ w.heap.size (0 + costF [(1, 1), (3, 1), (9, 1)] f) 256 hG.rd' (by omega)).mono ?_
      rintro e w' ⟨v, v0, v1, _, rfl, hr', hg'⟩
      have key := hK _ _ ⟨v, rfl, v0, by have := v1 (by omega); omega⟩ hg' (hG.call (i := 3) (c := 1) (by simp) hf hr' hg')
      simp [setX, q2] at key
      exact key
    · simp at ho
      subst ho
      have p3 : f 3 = true := hp { on := 3, ground := .data } (by simp) rfl
      have q3 := hQ 3 (by omega) p3
      obtain ⟨z3, h3, l3, m3⟩ := q3
      have iw := IntWalk.i64_in (4 * z3) (by omega)
      rw [if_pos (by rfl)]
      go_simp
      have key := hK _ _ ⟨(4 * z3), rfl, by omega, by omega⟩ (grown_refl _ _) (hG.step 4)
      simp [setX, h3] at key
      exact key
    · simp at ho
      subst ho
      have p4 : f 4 = true := hp { on := 4, ground := .data } (by simp) rfl
      have q4 := hQ 4 (by omega) p4
      obtain ⟨z4, h4, l4, m4⟩ := q4
      have iw := IntWalk.i64_in (1 + z4) (by omega)
      rw [if_pos (by rfl)]
      go_simp
      have key := hK _ _ ⟨(1 + z4), rfl, by omega, by omega⟩ (grown_refl _ _) (hG.step 5)
      simp [setX, h4] at key
      exact key
    · simp at ho
      subst ho
      have p1 : f 1 = true := hp { on := 1, ground := .data } (by simp) rfl
      have q1 := hQ 1 (by omega) p1
      obtain ⟨z1, h1, l1, m1⟩ := q1
      have p5 : f 5 = true := hp { on := 5, ground := .data } (by simp) rfl
      have q5 := hQ 5 (by omega) p5
      obtain ⟨z5, h5, l5, m5⟩ := q5
      rw [if_pos (by rfl)]
      go_simp
      have key := hK (.slice (some ⟨wx.heap.size, 0, none⟩) 6 6) (wx.alloc (.cells #[.int .i64 z1, .int .i64 z5, .int .i64 997, .int .i64 1009, .int .i64 1, .int .i64 (-7)] 3)) (IntLit.new rfl (intRow_cons (by omega) (by omega) (intRow_cons (by omega) (by omega) (intRow_cons (by omega) (by omega) (intRow_cons (by omega) (by omega) (intRow_cons (by omega) (by omega) (intRow_cons (by omega) (by omega) (intRow_nil))))))) hB hG.lt) (grown_alloc _ _ _) (hG.alloc _ 6)
      simp [setX, h1, h5] at key
      exact key
    · simp at ho
      subst ho
      rw [if_pos (by rfl)]
      go_simp
      have key := hK (.slice (some ⟨wx.heap.size, 0, none⟩) 9 9) (wx.alloc (.cells #[.int .i64 0, .int .i64 0, .int .i64 0, .int .i64 1, .int .i64 1, .int .i64 2, .int .i64 3, .int .i64 4, .int .i64 5] 3)) (IntLit.new rfl (intRow_cons (by omega) (by omega) (intRow_cons (by omega) (by omega) (intRow_cons (by omega) (by omega) (intRow_cons (by omega) (by omega) (intRow_cons (by omega) (by omega) (intRow_cons (by omega) (by omega) (intRow_cons (by omega) (by omega) (intRow_cons (by omega) (by omega) (intRow_cons (by omega) (by omega) (intRow_nil)))))))))) hB hG.lt) (grown_alloc _ _ _) (hG.alloc _ 7)
      simp [setX] at key
      exact key
    · simp at ho
      subst ho
      rw [if_pos (by rfl)]
      go_simp
      have key := hK _ _ rfl (grown_refl _ _) (hG.step 8)
      simp [setX] at key
      exact key
    · simp at ho
      subst ho
      have p8 : f 8 = true := hp { on := 8, ground := .data } (by simp) rfl
      have q8 := hQ 8 (by omega) p8
      have q8 : x 8 = .pointer (some ⟨w.heap.size, 0, none⟩) := q8
      rw [if_pos (by rfl)]
      go_simp
      refine (pick_any w _ w.heap.size (0 + costF [(1, 1), (3, 1), (9, 1)] f) 9 hG.rd' (by omega)).mono ?_
      rintro e w' ⟨v, v0, v1, _, rfl, hr', hg'⟩
      have key := hK _ _ ⟨v, rfl, v0, by have := v1 (by omega); omega⟩ hg' (hG.call (i := 9) (c := 1) (by simp) hf hr' hg')
      simp [setX, q8] at key
      exact key
    · simp at ho
      subst ho
      have p7 : f 7 = true := hp { on := 7, ground := .data } (by simp) rfl
      have q7 := hQ 7 (by omega) p7
      have p9 : f 9 = true := hp { on := 9, ground := .data } (by simp) rfl
      have q9 := hQ 9 (by omega) p9
      obtain ⟨z9, h9, l9, m9⟩ := q9
      obtain ⟨b, hb, hs⟩ := IntLit.at q7 (z := z9) (by omega) (by omega)
      have hiz : (z9 : Int) < 9 := by omega
      have hi0 : (0 : Int) ≤ z9 := by omega
      rw [if_pos (by rfl)]
      go_simp
      have key := hK _ _ hs (grown_refl _ _) (hG.step 10)
      simp [setX, h9, hb] at key
      exact key
    · simp at ho
      subst ho
      have p10 : f 10 = true := hp { on := 10, ground := .data } (by simp) rfl
      have q10 := hQ 10 (by omega) p10
      obtain ⟨b, jj, s, hx, _, _, hc, hs, ht⟩ := q10
      rw [if_pos (by rfl)]
      go_simp
      have key := hK _ _ ⟨s, rfl, hs, ht⟩ (grown_refl _ _) (hG.step 11)
      simp [setX, hx] at key
      exact key
    · simp at ho
      subst ho
      have p6 : f 6 = true := hp { on := 6, ground := .data } (by simp) rfl
      have q6 := hQ 6 (by omega) p6
      have p11 : f 11 = true := hp { on := 11, ground := .data } (by simp) rfl
      have q11 := hQ 11 (by omega) p11
      obtain ⟨z11, h11, l11, m11⟩ := q11
      obtain ⟨b, hb, hs⟩ := IntLit.at q6 (z := z11) (by omega) (by omega)
      have hiz : (z11 : Int) < 6 := by omega
      have hi0 : (0 : Int) ≤ z11 := by omega
      rw [if_pos (by rfl)]
      go_simp
      have key := hK _ _ hs (grown_refl _ _) (hG.step 12)
      simp [setX, h11, hb] at key
      exact key
    · simp at ho
      subst ho
      have p12 : f 12 = true := hp { on := 12, ground := .data } (by simp) rfl
      have q12 := hQ 12 (by omega) p12
      obtain ⟨b, jj, s, hx, _, _, hc, hs, ht⟩ := q12
      rw [if_pos (by rfl)]
      go_simp
      have key := hK _ _ ⟨s, rfl, hs, ht⟩ (grown_refl _ _) (hG.step 13)
      simp [setX, hx] at key
      exact key
    · simp at ho
      subst ho
      have p13 : f 13 = true := hp { on := 13, ground := .data } (by simp) rfl
      have q13 := hQ 13 (by omega) p13
      obtain ⟨z13, h13, l13, m13⟩ := q13
      rw [if_pos (by rfl)]
      go_simp
      have key := hK _ _ ⟨z13, rfl, l13, m13⟩ (grown_refl _ _) (hG.step 14)
      simp [setX, h13] at key
      exact key
  · intro x w9 hr9 hg9 hQ
    subst hFr
    obtain ⟨z14, h14, l14, m14⟩ : IntIn (-7) 1021 (x 14) := hQ 14 (by omega)
    clear hQ
    go_wp2
    go_ret
    exact ⟨z14, by simp [h14], hr9.bel⟩
/-- what the operations of the region yield -/
def QDgMr (B g : Nat) (j : Nat) (v : Value) (w : World) : Prop :=
  match j with
  | 0 => v = .pointer (some ⟨g, 0, none⟩)
  | 1 => IntIn 0 255 v
  | 2 => IntIn 0 994500 v
  | 3 => IntLit B g 4 (-1) 999983 v w
  | 4 => IntLit B g 7 0 3 v w
  | 5 => v = .pointer (some ⟨g, 0, none⟩)
  | 6 => IntIn 0 6 v
  | 7 => IntAt2 g 0 3 v w
  | 8 => IntIn 0 3 v
  | 9 => IntAt2 g (-1) 999983 v w
  | 10 => IntIn (-1) 999983 v
  | 11 => v = .pointer (some ⟨g, 0, none⟩)
  | 12 => IntIn 0 98 v
  | 13 => IntIn 30 128 v
  | 14 => IntIn (-1) 999983 v
  | 15 => IntIn 30 128 v
  | _ => False
theorem QDgMr_mono {B g : Nat} (j : Nat) (v : Value) (w w' : World) (_ : j < 16) (h : QDgMr B g j v w) (hg : w.grownBy w' (some g)) : QDgMr B g j v w' := by
  match j, h with
  | 0, h => exact h
  | 1, h => exact h
  | 2, h => exact h
  | 3, h => exact IntLit.mono h hg
  | 4, h => exact IntLit.mono h hg
  | 5, h => exact h
  | 6, h => exact h
  | 7, h => exact IntAt2.mono h hg
  | 8, h => exact h
  | 9, h => exact IntAt2.mono h hg
  | 10, h => exact h
  | 11, h => exact h
  | 12, h => exact h
  | 13, h => exact h
  | 14, h => exact h
  | 15, h => exact h
/-- a list of ints that was drawn -/
def DrawnZs (N : Nat) (w : World) (e : Ending) (w' : World) : Prop := ∃ (v : Value) (L : List Int), e = .returned v ∧ L.length ≤ N ∧ OwnZ w' w.heap.size v L ∧ Below w.heap.size w w'
/-- what the operations of the region yield -/
def QDgLi (B g : Nat) (sv : Value) (j : Nat) (v : Value) (w : World) : Prop :=
  match j with
  | 0 => v = sv
  | 1 => v = .pointer (some ⟨g, 0, none⟩)
  | 2 => IntIn 0 255 v
  | 3 => IntLit B g 3 (-1) 1000000000 v w
  | 4 => IntLit B g 15 0 2 v w
  | 5 => v = .pointer (some ⟨g, 0, none⟩)
  | 6 => IntIn 0 14 v
  | 7 => IntAt2 g 0 2 v w
  | 8 => IntIn 0 2 v
  | 9 => IntAt2 g (-1) 1000000000 v w
  | 10 => IntIn (-1) 1000000000 v
  | _ => False
theorem QDgLi_mono {B g : Nat} {sv : Value} (j : Nat) (v : Value) (w w' : World) (_ : j < 11) (h : QDgLi B g sv j v w) (hg : w.grownBy w' (some g)) : QDgLi B g sv j v w' := by
  match j, h with
  | 0, h => exact h
  | 1, h => exact h
  | 2, h => exact h
  | 3, h => exact IntLit.mono h hg
  | 4, h => exact IntLit.mono h hg
  | 5, h => exact h
  | 6, h => exact h
  | 7, h => exact IntAt2.mono h hg
  | 8, h => exact h
  | 9, h => exact IntAt2.mono h hg
  | 10, h => exact h
/-- one that was drawn, and the reader -/
def DrewKy (W w : World) (g m : Nat) (e : Ending) (w' : World) : Prop := ∃ y : Ky, e = .returned (aggKy y) ∧ ShKy y ∧ Rd W w' g m ∧ w.grownBy w' (some g)
/-- what the operations of the region yield -/
def QKy (B g : Nat) (n : Int) (j : Nat) (v : Value) (w : World) : Prop :=
  match j with
  | 0 => ∃ cs : Array Value, cs.size = 4 ∧ IntRow2 (11) (997) cs ∧ LitAt B g 4 cs v w
  | 1 => v = .pointer (some ⟨g, 0, none⟩)
  | 2 => IntUp 4 v
  | 3 => IntAt2 g (11) (997) v w
  | 4 => ∃ z : Int, v = .int .i64 z ∧ 11 ≤ z ∧ z ≤ 997
  | 5 => ∃ cs : Array Value, cs.size = 4 ∧ IntRow2 (13) (991) cs ∧ LitAt B g 4 cs v w
  | 6 => v = .pointer (some ⟨g, 0, none⟩)
  | 7 => IntUp 4 v
  | 8 => IntAt2 g (13) (991) v w
  | 9 => ∃ z : Int, v = .int .i64 z ∧ 13 ≤ z ∧ z ≤ 991
  | 10 => ∃ cs : Array Value, cs.size = 4 ∧ IntRow2 (7) (37) cs ∧ LitAt B g 4 cs v w
  | 11 => v = .pointer (some ⟨g, 0, none⟩)
  | 12 => IntUp 4 v
  | 13 => IntAt2 g (7) (37) v w
  | 14 => ∃ z : Int, v = .int .i64 z ∧ 7 ≤ z ∧ z ≤ 37
  | 15 => ∃ y : Ky, v = aggKy y ∧ ShKy y
  | _ => False
theorem QKy_mono {B g : Nat} {n : Int} (j : Nat) (v : Value) (w w' : World) (_ : j < 16) (h : QKy B g n j v w) (hg : w.grownBy w' (some g)) : QKy B g n j v w' := by
  match j, h with
  | 0, h => obtain ⟨cs, h1, h2, h3⟩ := h; exact ⟨cs, h1, h2, LitAt.mono h3 hg⟩
  | 1, h => exact h
  | 2, h => exact h
  | 3, h => exact IntAt2.mono h hg
  | 4, h => exact h
  | 5, h => obtain ⟨cs, h1, h2, h3⟩ := h; exact ⟨cs, h1, h2, LitAt.mono h3 hg⟩
  | 6, h => exact h
  | 7, h => exact h
  | 8, h => exact IntAt2.mono h hg
  | 9, h => exact h
  | 10, h => obtain ⟨cs, h1, h2, h3⟩ := h; exact ⟨cs, h1, h2, LitAt.mono h3 hg⟩
  | 11, h => exact h
  | 12, h => exact h
  | 13, h => exact IntAt2.mono h hg
  | 14, h => exact h
  | 15, h => exact h
theorem lit_ky (j : Nat) (hj : j < 6) : ∃ y : Ky, ShKy y ∧ (#[.int .i64 0, .int .i64 0, .int .i64 0, .int .i64 61, .int .i64 61, .int .i64 17, .int .i64 61, .int .i64 53, .int .i64 6, .int .i64 60, .int .i64 53, .int .i64 17, .int .i64 7, .int .i64 53, .int .i64 17, .int .i64 61, .int .i64 53, .int .i64 1001] : Array Value)[j * 3]? = some (.int .i64 y.one) ∧ (#[.int .i64 0, .int .i64 0, .int .i64 0, .int .i64 61, .int .i64 61, .int .i64 17, .int .i64 61, .int .i64 53, .int .i64 6, .int .i64 60, .int .i64 53, .int .i64 17, .int .i64 7, .int .i64 53, .int .i64 17, .int .i64 61, .int .i64 53, .int .i64 1001] : Array Value)[j * 3 + 1]? = some (.int .i64 y.two) ∧ (#[.int .i64 0, .int .i64 0, .int .i64 0, .int .i64 61, .int .i64 61, .int .i64 17, .int .i64 61, .int .i64 53, .int .i64 6, .int .i64 60, .int .i64 53, .int .i64 17, .int .i64 7, .int .i64 53, .int .i64 17, .int .i64 61, .int .i64 53, .int .i64 1001] : Array Value)[j * 3 + 2]? = some (.int .i64 y.exp) := by
  obtain rfl | rfl | rfl | rfl | rfl | rfl : j = 0 ∨ j = 1 ∨ j = 2 ∨ j = 3 ∨ j = 4 ∨ j = 5 := by omega
  · exact ⟨⟨0, 0, 0⟩, by simp [ShKy, ShI] <;> decide, rfl, rfl, rfl⟩
  · exact ⟨⟨61, 61, 17⟩, by simp [ShKy, ShI] <;> decide, rfl, rfl, rfl⟩
  · exact ⟨⟨61, 53, 6⟩, by simp [ShKy, ShI] <;> decide, rfl, rfl, rfl⟩
  · exact ⟨⟨60, 53, 17⟩, by simp [ShKy, ShI] <;> decide, rfl, rfl, rfl⟩
  · exact ⟨⟨7, 53, 17⟩, by simp [ShKy, ShI] <;> decide, rfl, rfl, rfl⟩
  · exact ⟨⟨61, 53, 1001⟩, by simp [ShKy, ShI] <;> decide, rfl, rfl, rfl⟩
def DrawnKy (w : World) (e : Ending) (w' : World) : Prop := ∃ y : Ky, e = .returned (aggKy y) ∧ ShKy y ∧ Below w.heap.size w w'
def DrawnKyI (w : World) (e : Ending) (w' : World) : Prop := ∃ (y : Ky) (x : Int), e = .returned (.tuple #[aggKy y, .int .i64 x]) ∧ ShKy y ∧ Below w.heap.size w w'
/-- what the operations of the region yield -/
def QOpnD (B g : Nat) (mm : Int) (j : Nat) (v : Value) (w : World) : Prop :=
  match j with
  | 0 => v = .int .i64 mm
  | 1 => v = .pointer (some ⟨g, 0, none⟩)
  | 2 => IntIn 0 59 v
  | 3 => IntIn 3 62 v
  | 4 => IntLit B g 4 2 1001 v w
  | 5 => IntLit B g 7 0 3 v w
  | 6 => v = .pointer (some ⟨g, 0, none⟩)
  | 7 => IntIn 0 6 v
  | 8 => IntAt2 g 0 3 v w
  | 9 => IntIn 0 3 v
  | 10 => IntAt2 g 2 1001 v w
  | 11 => IntIn 2 1001 v
  | 12 => v = .pointer (some ⟨g, 0, none⟩)
  | 13 => v = .int .i64 mm
  | 14 => IntIn 0 2000002 v
  | 15 => v = .int .i64 mm
  | 16 => IntIn 2 1001 v
  | 17 => IntIn 0 2000002 v
  | _ => False
theorem QOpnD_mono {B g : Nat} {mm : Int} (j : Nat) (v : Value) (w w' : World) (_ : j < 18) (h : QOpnD B g mm j v w) (hg : w.grownBy w' (some g)) : QOpnD B g mm j v w' := by
  match j, h with
  | 0, h => exact h
  | 1, h => exact h
  | 2, h => exact h
  | 3, h => exact h
  | 4, h => exact IntLit.mono h hg
  | 5, h => exact IntLit.mono h hg
  | 6, h => exact h
  | 7, h => exact h
  | 8, h => exact IntAt2.mono h hg
  | 9, h => exact h
  | 10, h => exact IntAt2.mono h hg
  | 11, h => exact h
  | 12, h => exact h
  | 13, h => exact h
  | 14, h => exact h
  | 15, h => exact h
  | 16, h => exact h
  | 17, h => exact h
theorem below_grown {w w' : World} (h : Below w.heap.size w w') (row : Option Nat) : w.grownBy w' row := ⟨h.os, h.tape, h.output, h.size, fun k hk _ => h.block k hk⟩
theorem sgX_rng (k : Ky) (s : ByteArray) (hs : s.size ≤ 81) : (sgX k s).1.text.size ≤ 81 ∧ 0 ≤ (sgX k s).1.sig ∧ (sgX k s).1.sig ≤ 994009 := by
  rcases q : sgX k s with ⟨x, ok⟩
  cases ok with
  | true =>
    obtain ⟨h1, h2, _, _, _, _, h3, h4⟩ := sgX_sig q
    exact ⟨by show x.text.size ≤ 81; omega, h3, h4⟩
  | false =>
    have := sgX_no q
    subst this
    exact ⟨by decide, by decide, by decide⟩
/-- a signature that was drawn, and the reader -/
def DrewSg (W w : World) (g m : Nat) (e : Ending) (w' : World) : Prop := ∃ y : Sg, e = .returned (aggSg y) ∧ y.text.size ≤ 100 ∧ Rd W w' g m ∧ w.grownBy w' (some g)
/-- what the operations of the region yield -/
def QSgC (B g : Nat) (b3 : Nat) (sg : Int) (j : Nat) (v : Value) (w : World) : Prop :=
  match j with
  | 0 => v = .pointer (some ⟨b3, 3, none⟩)
  | 1 => v = .int .i64 sg
  | 2 => IntLit B g 3 (-1) 100000000 v w
  | 3 => v = .pointer (some ⟨g, 0, none⟩)
  | 4 => IntIn 0 2 v
  | 5 => IntAt2 g (-1) 100000000 v w
  | 6 => IntIn (-1) 100000000 v
  | 7 => IntIn (-2) 100994009 v
  | 8 => v = .pointer (some ⟨b3, 3, none⟩)
  | _ => False
theorem QSgC_mono {B g : Nat} {b3 : Nat} {sg : Int} (j : Nat) (v : Value) (w w' : World) (_ : j < 9) (h : QSgC B g b3 sg j v w) (hg : w.grownBy w' (some g)) : QSgC B g b3 sg j v w' := by
  match j, h with
  | 0, h => exact h
  | 1, h => exact h
  | 2, h => exact IntLit.mono h hg
  | 3, h => exact h
  | 4, h => exact h
  | 5, h => exact IntAt2.mono h hg
  | 6, h => exact h
  | 7, h => exact h
  | 8, h => exact h
/-- what the operations of the region yield -/
def QSgD (B g : Nat) (j : Nat) (v : Value) (w : World) : Prop :=
  match j with
  | 0 => IntLit B g 4 0 1000001 v w
  | 1 => v = .pointer (some ⟨g, 0, none⟩)
  | 2 => IntIn 0 3 v
  | 3 => IntAt2 g 0 1000001 v w
  | 4 => IntIn 0 1000001 v
  | _ => False
theorem QSgD_mono {B g : Nat} (j : Nat) (v : Value) (w w' : World) (_ : j < 5) (h : QSgD B g j v w) (hg : w.grownBy w' (some g)) : QSgD B g j v w' := by
  match j, h with
  | 0, h => exact IntLit.mono h hg
  | 1, h => exact h
  | 2, h => exact h
  | 3, h => exact IntAt2.mono h hg
  | 4, h => exact h
def DrawnSg (w : World) (e : Ending) (w' : World) : Prop := ∃ y : Sg, e = .returned (aggSg y) ∧ y.text.size ≤ 100 ∧ Below w.heap.size w w'
def DrawnKyS (w : World) (e : Ending) (w' : World) : Prop := ∃ (y : Ky) (s : ByteArray), e = .returned (.tuple #[aggKy y, .string s]) ∧ s.size ≤ 81 ∧ Below w.heap.size w w'
/-- what the operations of the region yield -/
def QSb (g : Nat) (one two exp : Int) (j : Nat) (v : Value) : Prop :=
  match j with
  | 0 => v = .agg #[.int .i64 one, .int .i64 two, .int .i64 exp]
  | 1 => v = .pointer (some ⟨g, 0, none⟩)
  | 2 => StrIs 81 v
  | 3 => ∃ (y : Sg) (ok : Bool), v = .tuple #[aggSg y, .bool ok] ∧ y.text.size ≤ 100
  | 4 => ∃ (y : Sg) (ok : Bool), v = .tuple #[aggSg y, .bool ok] ∧ y.text.size ≤ 100
  | 5 => ∃ y : Sg, v = aggSg y ∧ y.text.size ≤ 100
  | 6 => ∃ ok : Bool, v = .bool ok
  | 9 => ∃ ok : Bool, v = .bool ok
  | _ => False
def rowOf : Value → Array Value
  | .agg cs => cs
  | _ => #[]
def DrawnSgK (w : World) (e : Ending) (w' : World) : Prop := ∃ (y : Sg) (k : Ky), e = .returned (.tuple #[aggSg y, aggKy k]) ∧ y.text.size ≤ 100 ∧ Below w.heap.size w w'
end Go.Proofs.Ytehoilnnknmhnaa
