/-
  The verifier's own text: DMod DMod2 DDg DDg2 DKy DKy2 DKy3 DSg DSg2 DSg3.
-/
import Derived.Test.YthjjagfghbljpaaRows
import Derived.Test.YthjjagfghbljpaaJB
import Derived.Test.YthjjagfghbljpaaGh
import Derived.Test.YthjjagfghbljpaaGb
import Derived.IntWalk
import Derived.Deep.DeepCutAuto
import Derived.Test.YthjjagfghbljpaaJH
import Derived.Test.YthjjagfghbljpaaGs
import Derived.Test.YthjjagfghbljpaaHE
import Derived.Test.YthjjagfghbljpaaHA
import Derived.Test.YthjjagfghbljpaaGn
import Derived.Test.YthjjagfghbljpaaJC
import Derived.Test.YthjjagfghbljpaaHB
import Derived.WalkKit
import Derived.ProofKit
import Derived.Below
import Derived.Lib.Hide
import Derived.Outline
import Derived.BigQuiet
import Derived.Deep.QuietTactic
import Derived.Deep.Draws
import Derived.Laws.OwnMore
import Derived.Laws.Rows
import Derived.WalkSpells
import Derived.Deep.RegionWith
namespace Go.Proofs.Ythjjagfghbljpaa
open Go.RowKit
set_option linter.unusedVariables false
theorem mul_nn {x y b d : Int} (h0 : 0 ≤ x) (h1 : x ≤ b) (h2 : 0 ≤ y) (h3 : y ≤ d) : 0 ≤ x * y ∧ x * y ≤ b * d :=
  ⟨Int.mul_nonneg h0 h2, Int.le_trans (Int.mul_le_mul_of_nonneg_right h1 h2) (Int.mul_le_mul_of_nonneg_left h3 (by omega))⟩
theorem mod_rng {x y : Int} (h0 : 0 ≤ x) (h1 : 0 < y) : 0 ≤ x % y ∧ x % y ≤ y - 1 ∧ x % y ≤ x := by
  have a := Int.emod_nonneg x (b := y) (by omega)
  have b := Int.emod_lt_of_pos x (b := y) h1
  refine ⟨a, by omega, ?_⟩
  have c : x / y * y + x % y = x := Int.ediv_mul_add_emod x y
  have d := Int.mul_nonneg (Int.ediv_nonneg h0 (Int.le_of_lt h1)) (Int.le_of_lt h1)
  omega
def DrewIn (lo hi : Int) (W w : World) (g m : Nat) (e : Ending) (w' : World) : Prop := ∃ v : Int, e = .returned (.int .i64 v) ∧ lo ≤ v ∧ v ≤ hi ∧ Rd W w' g m ∧ w.grownBy w' (some g)
/-- what the operations of the region yield -/
def QModu (B g : Nat) (j : Nat) (v : Value) (w : World) : Prop :=
  match j with
  | 0 => v = .pointer (some ⟨g, 0, none⟩)
  | 1 => IntIn 0 59 v
  | 2 => IntIn 2 61 v
  | 3 => IntLit B g 7 0 1000001 v w
  | 4 => IntLit B g 10 0 6 v w
  | 5 => v = .pointer (some ⟨g, 0, none⟩)
  | 6 => IntIn 0 9 v
  | 7 => IntAt2 g 0 6 v w
  | 8 => IntIn 0 6 v
  | 9 => IntAt2 g 0 1000001 v w
  | 10 => IntIn 0 1000001 v
  | 11 => IntIn 0 1000001 v
  | _ => False
theorem QModu_mono {B g : Nat} (j : Nat) (v : Value) (w w' : World) (_ : j < 12) (h : QModu B g j v w) (hg : w.grownBy w' (some g)) : QModu B g j v w' := by
  match j, h with
  | 0, h => exact h
  | 1, h => exact h
  | 2, h => exact h
  | 3, h => exact IntLit.mono h hg
  | 4, h => exact IntLit.mono h hg
  | 5, h => exact h
  | 6, h => exact h
  | 7, h => exact IntAt2.mono h hg
  | 8, h => exact h
  | 9, h => exact IntAt2.mono h hg
  | 10, h => exact h
  | 11, h => exact h
set_option maxRecDepth 100000 in
set_option maxHeartbeats 2000000 in
theorem modu_draw (W w : World) (g m : Nat) (hr : Rd W w g m) (hm : m ≤ 999990) :
    Calls Try.prog 39 #[.pointer (some ⟨g, 0, none⟩)] w (DrewIn 0 1000001 W w g (m + 2)) := by
  go_enter Try.func39, Try.ntmps39
  go_upto_region 1 with fail
  obtain ⟨Fr, hFr⟩ : ∃ Fr : (Nat → Value) → Act, Fr = (fun x => { tmps := #[.pointer (some ⟨g, 0, none⟩), undef, x 11, x 0, x 1, x 2, x 3, x 4, x 5, x 6, x 7, x 8, x 9, x 10], defers := [] }) := ⟨_, rfl⟩
  refine pick_region (n := 12) (by kernel_rfl) rfl W g (m) [(1, 1), (6, 1)] Fr
    (QModu w.heap.size g) (by kernel_rfl) (fun j => if j = 11 then .int .i64 0 else undef) (by rw [hFr]; rfl) hr QModu_mono ?_ ?_
  · intro i o f x w2 hi ho hf hp hG hQ K hK
    subst hFr
    have hB : w.heap.size ≤ w2.heap.size := hG.gr.size
    have hcost := cost_all [(1, 1), (6, 1)] f
    have hca : costAll [(1, 1), (6, 1)] = 2 := rfl
    obtain rfl | rfl | rfl | rfl | rfl | rfl | rfl | rfl | rfl | rfl | rfl | rfl : i = 0 ∨ i = 1 ∨ i = 2 ∨ i = 3 ∨ i = 4 ∨ i = 5 ∨ i = 6 ∨ i = 7 ∨ i = 8 ∨ i = 9 ∨ i = 10 ∨ i = 11 := by omega
    · simp at ho
      subst ho
      rw [if_pos (by rfl)]
      go_simp
      have key := hK _ _ rfl (grown_refl _ _) (hG.step 0)
      simp [setX] at key
      exact key
    · simp at ho
      subst ho
      have p0 : f 0 = true := hp { on := 0, ground := .data } (by simp) rfl
      have q0 := hQ 0 (by omega) p0
      have q0 : x 0 = .pointer (some ⟨g, 0, none⟩) := q0
      rw [if_pos (by rfl)]
      go_simp
      refine (pick_any W _ g (m + costF [(1, 1), (6, 1)] f) 60 hG.rd' (by omega)).mono ?_
      rintro e w' ⟨v, v0, v1, _, rfl, hr', hg'⟩
      have key := hK _ _ ⟨v, rfl, v0, by have := v1 (by omega); omega⟩ hg' (hG.call (i := 1) (c := 1) (by simp) hf hr' hg')
      simp [setX, q0] at key
      exact key
    · simp at ho
      subst ho
      have p1 : f 1 = true := hp { on := 1, ground := .data } (by simp) rfl
      have q1 := hQ 1 (by omega) p1
      obtain ⟨z1, h1, l1, m1⟩ := q1
      have iw := IntWalk.i64_in (2 + z1) (by omega)
      rw [if_pos (by rfl)]
      go_simp
      have key := hK _ _ ⟨(2 + z1), rfl, by omega, by omega⟩ (grown_refl _ _) (hG.step 2)
      simp [setX, h1] at key
      exact key
    · simp at ho
      subst ho
      have p2 : f 2 = true := hp { on := 2, ground := .data } (by simp) rfl
      have q2 := hQ 2 (by omega) p2
      obtain ⟨z2, h2, l2, m2⟩ := q2
      rw [if_pos (by rfl)]
      go_simp
      have key := hK (.slice (some ⟨w2.heap.size, 0, none⟩) 7 7) (w2.alloc (.cells #[.int .i64 z2, .int .i64 1000000, .int .i64 97, .int .i64 3233, .int .i64 1, .int .i64 0, .int .i64 1000001] 3)) (IntLit.new rfl (intRow_cons (by omega) (by omega) (intRow_cons (by omega) (by omega) (intRow_cons (by omega) (by omega) (intRow_cons (by omega) (by omega) (intRow_cons (by omega) (by omega) (intRow_cons (by omega) (by omega) (intRow_cons (by omega) (by omega) (intRow_nil)))))))) hB hG.lt) (grown_alloc _ _ _) (hG.alloc _ 3)
      simp [setX, h2] at key
      exact key
    · simp at ho
      subst ho
      rw [if_pos (by rfl)]
      go_simp
      have key := hK (.slice (some ⟨w2.heap.size, 0, none⟩) 10 10) (w2.alloc (.cells #[.int .i64 0, .int .i64 0, .int .i64 0, .int .i64 0, .int .i64 1, .int .i64 2, .int .i64 3, .int .i64 4, .int .i64 5, .int .i64 6] 3)) (IntLit.new rfl (intRow_cons (by omega) (by omega) (intRow_cons (by omega) (by omega) (intRow_cons (by omega) (by omega) (intRow_cons (by omega) (by omega) (intRow_cons (by omega) (by omega) (intRow_cons (by omega) (by omega) (intRow_cons (by omega) (by omega) (intRow_cons (by omega) (by omega) (intRow_cons (by omega) (by omega) (intRow_cons (by omega) (by omega) (intRow_nil))))))))))) hB hG.lt) (grown_alloc _ _ _) (hG.alloc _ 4)
      simp [setX] at key
      exact key
    · simp at ho
      subst ho
      rw [if_pos (by rfl)]
      go_simp
      have key := hK _ _ rfl (grown_refl _ _) (hG.step 5)
      simp [setX] at key
      exact key
    · simp at ho
      subst ho
      have p5 : f 5 = true := hp { on := 5, ground := .data } (by simp) rfl
      have q5 := hQ 5 (by omega) p5
      have q5 : x 5 = .pointer (some ⟨g, 0, none⟩) := q5
      rw [if_pos (by rfl)]
      go_simp
      refine (pick_any W _ g (m + costF [(1, 1), (6, 1)] f) 10 hG.rd' (by omega)).mono ?_
      rintro e w' ⟨v, v0, v1, _, rfl, hr', hg'⟩
      have key := hK _ _ ⟨v, rfl, v0, by have := v1 (by omega); omega⟩ hg' (hG.call (i := 6) (c := 1) (by simp) hf hr' hg')
      simp [setX, q5] at key
      exact key
    · simp at ho
      subst ho
      have p4 : f 4 = true := hp { on := 4, ground := .data } (by simp) rfl
      have q4 := hQ 4 (by omega) p4
      have p6 : f 6 = true := hp { on := 6, ground := .data } (by simp) rfl
      have q6 := hQ 6 (by omega) p6
      obtain ⟨z6, h6, l6, m6⟩ := q6
      obtain ⟨b, hb, hs⟩ := IntLit.at q4 (z := z6) (by omega) (by omega)
      have hiz : (z6 : Int) < 10 := by omega
      have hi0 : (0 : Int) ≤ z6 := by omega
      rw [if_pos (by rfl)]
      go_simp
      have key := hK _ _ hs (grown_refl _ _) (hG.step 7)
      simp [setX, h6, hb] at key
      exact key
    · simp at ho
      subst ho
      have p7 : f 7 = true := hp { on := 7, ground := .data } (by simp) rfl
      have q7 := hQ 7 (by omega) p7
      obtain ⟨b, jj, s, hx, _, _, hc, hs, ht⟩ := q7
      rw [if_pos (by rfl)]
      go_simp
      have key := hK _ _ ⟨s, rfl, hs, ht⟩ (grown_refl _ _) (hG.step 8)
      simp [setX, hx] at key
      exact key
    · simp at ho
      subst ho
      have p3 : f 3 = true := hp { on := 3, ground := .data } (by simp) rfl
      have q3 := hQ 3 (by omega) p3
      have p8 : f 8 = true := hp { on := 8, ground := .data } (by simp) rfl
      have q8 := hQ 8 (by omega) p8
      obtain ⟨z8, h8, l8, m8⟩ := q8
      obtain ⟨b, hb, hs⟩ := IntLit.at q3 (z := z8) (by omega) (by omega)
      have hiz : (z8 : Int) < 7 := by omega
      have hi0 : (0 : Int) ≤ z8 := by omega
      rw [if_pos (by rfl)]
      go_simp
      have key := hK _ _ hs (grown_refl _ _) (hG.step 9)
      simp [setX, h8, hb] at key
      exact key
    · simp at ho
      subst ho
      have p9 : f 9 = true := hp { on := 9, ground := .data } (by simp) rfl
      have q9 := hQ 9 (by omega) p9
      obtain ⟨b, jj, s, hx, _, _, hc, hs, ht⟩ := q9
      rw [if_pos (by rfl)]
      go_simp
      have key := hK _ _ ⟨s, rfl, hs, ht⟩ (grown_refl _ _) (hG.step 10)
      simp [setX, hx] at key
      exact key
    · simp at ho
      subst ho
      have p10 : f 10 = true := hp { on := 10, ground := .data } (by simp) rfl
      have q10 := hQ 10 (by omega) p10
      obtain ⟨z10, h10, l10, m10⟩ := q10
      rw [if_pos (by rfl)]
      go_simp
      have key := hK _ _ ⟨z10, rfl, l10, m10⟩ (grown_refl _ _) (hG.step 11)
      simp [setX, h10] at key
      exact key
  · intro x w9 hr9 hg9 hQ
    subst hFr
    obtain ⟨z11, h11, l11, m11⟩ : IntIn 0 1000001 (x 11) := hQ 11 (by omega)
    clear hQ
    go_wp2
    go_ret
    exact ⟨z11, by simp [h11], l11, m11, hr9, hg9⟩
/-- what the operations of the region yield -/
def QBelo (B g : Nat) (n : Int) (j : Nat) (v : Value) (w : World) : Prop :=
  match j with
  | 0 => v = .pointer (some ⟨g, 0, none⟩)
  | 1 => IntIn 0 255 v
  | 2 => IntIn 0 996285 v
  | 3 => v = .int .i64 n
  | 4 => IntIn 1 1000001 v
  | 5 => IntIn 0 996285 v
  | 6 => v = .pointer (some ⟨g, 0, none⟩)
  | 7 => IntIn 0 13 v
  | 8 => IntIn 0 1 v
  | 9 => v = .int .i64 n
  | 10 => IntIn 0 1000001 v
  | 11 => IntIn 0 1996286 v
  | 12 => IntIn 0 1996286 v
  | _ => False
theorem QBelo_mono {B g : Nat} {n : Int} (j : Nat) (v : Value) (w w' : World) (_ : j < 13) (h : QBelo B g n j v w) (hg : w.grownBy w' (some g)) : QBelo B g n j v w' := by
  match j, h with
  | 0, h => exact h
  | 1, h => exact h
  | 2, h => exact h
  | 3, h => exact h
  | 4, h => exact h
  | 5, h => exact h
  | 6, h => exact h
  | 7, h => exact h
  | 8, h => exact h
  | 9, h => exact h
  | 10, h => exact h
  | 11, h => exact h
  | 12, h => exact h
set_option maxRecDepth 100000 in
set_option maxHeartbeats 2000000 in
theorem belo_draw (W w : World) (g m : Nat) (n : Int) (hr : Rd W w g m) (hm : m ≤ 999990) (n0 : 0 ≤ n) (n1 : n ≤ 1000001) :
    Calls Try.prog 36 #[.pointer (some ⟨g, 0, none⟩), .int .i64 n] w (DrewIn 0 2000002 W w g (m + 2)) := by
  go_enter Try.func36, Try.ntmps36
  go_upto_region 1 with fail
  obtain ⟨Fr, hFr⟩ : ∃ Fr : (Nat → Value) → Act, Fr = (fun x => { tmps := #[.pointer (some ⟨g, 0, none⟩), .int .i64 n, undef, undef, x 12, x 0, x 1, x 2, x 3, x 4, x 5, x 6, x 7, x 8, x 9, x 10, x 11], defers := [] }) := ⟨_, rfl⟩
  refine pick_region (n := 13) (by kernel_rfl) rfl W g (m) [(1, 1), (7, 1)] Fr
    (QBelo w.heap.size g n) (by kernel_rfl) (fun j => if j = 12 then .int .i64 0 else undef) (by rw [hFr]; rfl) hr QBelo_mono ?_ ?_
  · intro i o f x w2 hi ho hf hp hG hQ K hK
    subst hFr
    have hB : w.heap.size ≤ w2.heap.size := hG.gr.size
    have hcost := cost_all [(1, 1), (7, 1)] f
    have hca : costAll [(1, 1), (7, 1)] = 2 := rfl
    obtain rfl | rfl | rfl | rfl | rfl | rfl | rfl | rfl | rfl | rfl | rfl | rfl | rfl : i = 0 ∨ i = 1 ∨ i = 2 ∨ i = 3 ∨ i = 4 ∨ i = 5 ∨ i = 6 ∨ i = 7 ∨ i = 8 ∨ i = 9 ∨ i = 10 ∨ i = 11 ∨ i = 12 := by omega
    · simp at ho
      subst ho
      rw [if_pos (by rfl)]
      go_simp
      have key := hK _ _ rfl (grown_refl _ _) (hG.step 0)
      simp [setX] at key
      exact key
    · simp at ho
      subst ho
      have p0 : f 0 = true := hp { on := 0, ground := .data } (by simp) rfl
      have q0 := hQ 0 (by omega) p0
      have q0 : x 0 = .pointer (some ⟨g, 0, none⟩) := q0
      rw [if_pos (by rfl)]
      go_simp
      refine (pick_any W _ g (m + costF [(1, 1), (7, 1)] f) 256 hG.rd' (by omega)).mono ?_
      rintro e w' ⟨v, v0, v1, _, rfl, hr', hg'⟩
      have key := hK _ _ ⟨v, rfl, v0, by have := v1 (by omega); omega⟩ hg' (hG.call (i := 1) (c := 1) (by simp) hf hr' hg')
      simp [setX, q0] at key
      exact key
    · simp at ho
      subst ho
      have p1 : f 1 = true := hp { on := 1, ground := .data } (by simp) rfl
      have q1 := hQ 1 (by omega) p1
      obtain ⟨z1, h1, l1, m1⟩ := q1
      have iw := IntWalk.i64_in (z1 * 3907) (by omega)
      rw [if_pos (by rfl)]
      go_simp
      have key := hK _ _ ⟨(z1 * 3907), rfl, by omega, by omega⟩ (grown_refl _ _) (hG.step 2)
      simp [setX, h1] at key
      exact key
    · simp at ho
      subst ho
      rw [if_pos (by rfl)]
      go_simp
      have key := hK _ _ rfl (grown_refl _ _) (hG.step 3)
      simp [setX] at key
      exact key
    · simp at ho
      subst ho
      have p3 : f 3 = true := hp { on := 3, ground := .data } (by simp) rfl
      have q3 := hQ 3 (by omega) p3
      have q3 : x 3 = .int .i64 n := q3
      rw [if_pos (by rfl)]
      go_simp
      have key := hK _ _ ⟨max 1 n, rfl, by omega, by omega⟩ (grown_refl _ _) (hG.step 4)
      simp [setX, q3] at key
      exact key
    · simp at ho
      subst ho
      have p2 : f 2 = true := hp { on := 2, ground := .data } (by simp) rfl
      have q2 := hQ 2 (by omega) p2
      obtain ⟨z2, h2, l2, m2⟩ := q2
      have p4 : f 4 = true := hp { on := 4, ground := .data } (by simp) rfl
      have q4 := hQ 4 (by omega) p4
      obtain ⟨z4, h4, l4, m4⟩ := q4
      have i5 : (z2).tmod z4 = z2 % z4 := Int.tmod_eq_emod_of_nonneg (by omega)
      have hmn := mod_rng (x := z2) (y := z4) (by omega) (by omega)
      have hy0 : ¬ z4 = 0 := by omega
      have iw := IntWalk.i64_in (z2 % z4) (by omega)
      rw [if_pos (by rfl)]
      go_simp
      have key := hK _ _ ⟨z2 % z4, rfl, by omega, by omega⟩ (grown_refl _ _) (hG.step 5)
      simp [setX, h2, h4] at key
      exact key
    · simp at ho
      subst ho
      rw [if_pos (by rfl)]
      go_simp
      have key := hK _ _ rfl (grown_refl _ _) (hG.step 6)
      simp [setX] at key
      exact key
    · simp at ho
      subst ho
      have p6 : f 6 = true := hp { on := 6, ground := .data } (by simp) rfl
      have q6 := hQ 6 (by omega) p6
      have q6 : x 6 = .pointer (some ⟨g, 0, none⟩) := q6
      rw [if_pos (by rfl)]
      go_simp
      refine (pick_any W _ g (m + costF [(1, 1), (7, 1)] f) 14 hG.rd' (by omega)).mono ?_
      rintro e w' ⟨v, v0, v1, _, rfl, hr', hg'⟩
      have key := hK _ _ ⟨v, rfl, v0, by have := v1 (by omega); omega⟩ hg' (hG.call (i := 7) (c := 1) (by simp) hf hr' hg')
      simp [setX, q6] at key
      exact key
    · simp at ho
      subst ho
      have p7 : f 7 = true := hp { on := 7, ground := .data } (by simp) rfl
      have q7 := hQ 7 (by omega) p7
      obtain ⟨z7, h7, l7, m7⟩ := q7
      have i5 : (z7).tdiv 13 = z7 / 13 := Int.tdiv_eq_ediv_of_nonneg (by omega)
      have iw := IntWalk.i64_in (z7 / 13) (by omega)
      rw [if_pos (by rfl)]
      go_simp
      have key := hK _ _ ⟨z7 / 13, rfl, by omega, by omega⟩ (grown_refl _ _) (hG.step 8)
      simp [setX, h7] at key
      exact key
    · simp at ho
      subst ho
      rw [if_pos (by rfl)]
      go_simp
      have key := hK _ _ rfl (grown_refl _ _) (hG.step 9)
      simp [setX] at key
      exact key
    · simp at ho
      subst ho
      have p8 : f 8 = true := hp { on := 8, ground := .data } (by simp) rfl
      have q8 := hQ 8 (by omega) p8
      obtain ⟨z8, h8, l8, m8⟩ := q8
      have p9 : f 9 = true := hp { on := 9, ground := .data } (by simp) rfl
      have q9 := hQ 9 (by omega) p9
      have q9 : x 9 = .int .i64 n := q9
      have hmul := mul_nn (x := z8) (y := n) (b := 1) (d := 1000001) (by omega) (by omega) (by omega) (by omega)
      have iw := IntWalk.i64_in (z8 * n) (by omega)
      rw [if_pos (by rfl)]
      go_simp
      have key := hK _ _ ⟨(z8 * n), rfl, by omega, by omega⟩ (grown_refl _ _) (hG.step 10)
      simp [setX, h8, q9] at key
      exact key
    · simp at ho
      subst ho
      have p5 : f 5 = true := hp { on := 5, ground := .data } (by simp) rfl
      have q5 := hQ 5 (by omega) p5
      obtain ⟨z5, h5, l5, m5⟩ := q5
      have p10 : f 10 = true := hp { on := 10, ground := .data } (by simp) rfl
      have q10 := hQ 10 (by omega) p10
      obtain ⟨z10, h10, l10, m10⟩ := q10
      have iw := IntWalk.i64_in (z5 + z10) (by omega)
      rw [if_pos (by rfl)]
      go_simp
      have key := hK _ _ ⟨(z5 + z10), rfl, by omega, by omega⟩ (grown_refl _ _) (hG.step 11)
      simp [setX, h5, h10] at key
      exact key
    · simp at ho
      subst ho
      have p11 : f 11 = true := hp { on := 11, ground := .data } (by simp) rfl
      have q11 := hQ 11 (by omega) p11
      obtain ⟨z11, h11, l11, m11⟩ := q11
      rw [if_pos (by rfl)]
      go_simp
      have key := hK _ _ ⟨z11, rfl, l11, m11⟩ (grown_refl _ _) (hG.step 12)
      simp [setX, h11] at key
      exact key
  · intro x w9 hr9 hg9 hQ
    subst hFr
    obtain ⟨z12, h12, l12, m12⟩ : IntIn 0 1996286 (x 12) := hQ 12 (by omega)
    clear hQ
    go_wp2
    go_ret
    exact ⟨z12, by simp [h12], l12, by omega, hr9, hg9⟩
/-- what the operations of the region yield -/
def QPowD (B g : Nat) (mm : Int) (aa : Int) (j : Nat) (v : Value) (w : World) : Prop :=
  match j with
  | 0 => v = .int .i64 aa
  | 1 => v = .pointer (some ⟨g, 0, none⟩)
  | 2 => IntIn 0 19 v
  | 3 => v = .pointer (some ⟨g, 0, none⟩)
  | 4 => IntIn 0 255 v
  | 5 => IntIn 0 765000 v
  | 6 => IntLit B g 4 (-1) 1000000000 v w
  | 7 => IntLit B g 7 0 3 v w
  | 8 => v = .pointer (some ⟨g, 0, none⟩)
  | 9 => IntIn 0 6 v
  | 10 => IntAt2 g 0 3 v w
  | 11 => IntIn 0 3 v
  | 12 => IntAt2 g (-1) 1000000000 v w
  | 13 => IntIn (-1) 1000000000 v
  | 14 => v = .int .i64 mm
  | 15 => v = .int .i64 aa
  | 16 => IntIn (-1) 1000000000 v
  | 17 => v = .int .i64 mm
  | _ => False
theorem QPowD_mono {B g : Nat} {mm : Int} {aa : Int} (j : Nat) (v : Value) (w w' : World) (_ : j < 18) (h : QPowD B g mm aa j v w) (hg : w.grownBy w' (some g)) : QPowD B g mm aa j v w' := by
  match j, h with
  | 0, h => exact h
  | 1, h => exact h
  | 2, h => exact h
  | 3, h => exact h
  | 4, h => exact h
  | 5, h => exact h
  | 6, h => exact IntLit.mono h hg
  | 7, h => exact IntLit.mono h hg
  | 8, h => exact h
  | 9, h => exact h
  | 10, h => exact IntAt2.mono h hg
  | 11, h => exact h
  | 12, h => exact IntAt2.mono h hg
  | 13, h => exact h
  | 14, h => exact h
  | 15, h => exact h
  | 16, h => exact h
  | 17, h => exact h
/-- what the operations of the region yield -/
def QPriD (B g : Nat) (j : Nat) (v : Value) (w : World) : Prop :=
  match j with
  | 0 => v = .pointer (some ⟨g, 0, none⟩)
  | 1 => IntIn 0 255 v
  | 2 => v = .pointer (some ⟨g, 0, none⟩)
  | 3 => IntIn 0 255 v
  | 4 => IntIn 0 1020 v
  | 5 => IntIn 1 1021 v
  | 6 => IntLit B g 6 (-7) 1021 v w
  | 7 => IntLit B g 9 0 5 v w
  | 8 => v = .pointer (some ⟨g, 0, none⟩)
  | 9 => IntIn 0 8 v
  | 10 => IntAt2 g 0 5 v w
  | 11 => IntIn 0 5 v
  | 12 => IntAt2 g (-7) 1021 v w
  | 13 => IntIn (-7) 1021 v
  | 14 => IntIn (-7) 1021 v
  | _ => False
theorem QPriD_mono {B g : Nat} (j : Nat) (v : Value) (w w' : World) (_ : j < 15) (h : QPriD B g j v w) (hg : w.grownBy w' (some g)) : QPriD B g j v w' := by
  match j, h with
  | 0, h => exact h
  | 1, h => exact h
  | 2, h => exact h
  | 3, h => exact h
  | 4, h => exact h
  | 5, h => exact h
  | 6, h => exact IntLit.mono h hg
  | 7, h => exact IntLit.mono h hg
  | 8, h => exact h
  | 9, h => exact h
  | 10, h => exact IntAt2.mono h hg
  | 11, h => exact h
  | 12, h => exact IntAt2.mono h hg
  | 13, h => exact h
  | 14, h => exact h
/-- what the operations of the region yield -/
def QDgMr (B g : Nat) (j : Nat) (v : Value) (w : World) : Prop :=
  match j with
  | 0 => v = .pointer (some ⟨g, 0, none⟩)
  | 1 => IntIn 0 255 v
  | 2 => IntIn 0 994500 v
  | 3 => IntLit B g 4 (-1) 999983 v w
  | 4 => IntLit B g 7 0 3 v w
  | 5 => v = .pointer (some ⟨g, 0, none⟩)
  | 6 => IntIn 0 6 v
  | 7 => IntAt2 g 0 3 v w
  | 8 => IntIn 0 3 v
  | 9 => IntAt2 g (-1) 999983 v w
  | 10 => IntIn (-1) 999983 v
  | 11 => v = .pointer (some ⟨g, 0, none⟩)
  | 12 => IntIn 0 98 v
  | 13 => IntIn 30 128 v
  | 14 => IntIn (-1) 999983 v
  | 15 => IntIn 30 128 v
  | _ => False
theorem QDgMr_mono {B g : Nat} (j : Nat) (v : Value) (w w' : World) (_ : j < 16) (h : QDgMr B g j v w) (hg : w.grownBy w' (some g)) : QDgMr B g j v w' := by
  match j, h with
  | 0, h => exact h
  | 1, h => exact h
  | 2, h => exact h
  | 3, h => exact IntLit.mono h hg
  | 4, h => exact IntLit.mono h hg
  | 5, h => exact h
  | 6, h => exact h
  | 7, h => exact IntAt2.mono h hg
  | 8, h => exact h
  | 9, h => exact IntAt2.mono h hg
  | 10, h => exact h
  | 11, h => exact h
  | 12, h => exact h
  | 13, h => exact h
  | 14, h => exact h
  | 15, h => exact h
/-- a list of ints that was drawn -/
def DrawnZs (N : Nat) (w : World) (e : Ending) (w' : World) : Prop := ∃ (v : Value) (L : List Int), e = .returned v ∧ L.length ≤ N ∧ OwnZ w' w.heap.size v L ∧ Below w.heap.size w w'
/-- what the operations of the region yield -/
def QDgLi (B g : Nat) (sv : Value) (j : Nat) (v : Value) (w : World) : Prop :=
  match j with
  | 0 => v = sv
  | 1 => v = .pointer (some ⟨g, 0, none⟩)
  | 2 => IntIn 0 255 v
  | 3 => IntLit B g 3 (-1) 1000000000 v w
  | 4 => IntLit B g 15 0 2 v w
  | 5 => v = .pointer (some ⟨g, 0, none⟩)
  | 6 => IntIn 0 14 v
  | 7 => IntAt2 g 0 2 v w
  | 8 => IntIn 0 2 v
  | 9 => IntAt2 g (-1) 1000000000 v w
  | 10 => IntIn (-1) 1000000000 v
  | _ => False
theorem QDgLi_mono {B g : Nat} {sv : Value} (j : Nat) (v : Value) (w w' : World) (_ : j < 11) (h : QDgLi B g sv j v w) (hg : w.grownBy w' (some g)) : QDgLi B g sv j v w' := by
  match j, h with
  | 0, h => exact h
  | 1, h => exact h
  | 2, h => exact h
  | 3, h => exact IntLit.mono h hg
  | 4, h => exact IntLit.mono h hg
  | 5, h => exact h
  | 6, h => exact h
  | 7, h => exact IntAt2.mono h hg
  | 8, h => exact h
  | 9, h => exact IntAt2.mono h hg
  | 10, h => exact h
/-- one that was drawn, and the reader -/
def DrewKy (W w : World) (g m : Nat) (e : Ending) (w' : World) : Prop := ∃ y : Ky, e = .returned (aggKy y) ∧ ShKy y ∧ Rd W w' g m ∧ w.grownBy w' (some g)
/-- what the operations of the region yield -/
def QKy (B g : Nat) (n : Int) (j : Nat) (v : Value) (w : World) : Prop :=
  match j with
  | 0 => ∃ cs : Array Value, cs.size = 4 ∧ IntRow2 (11) (997) cs ∧ LitAt B g 4 cs v w
  | 1 => v = .pointer (some ⟨g, 0, none⟩)
  | 2 => IntUp 4 v
  | 3 => IntAt2 g (11) (997) v w
  | 4 => ∃ z : Int, v = .int .i64 z ∧ 11 ≤ z ∧ z ≤ 997
  | 5 => ∃ cs : Array Value, cs.size = 4 ∧ IntRow2 (13) (991) cs ∧ LitAt B g 4 cs v w
  | 6 => v = .pointer (some ⟨g, 0, none⟩)
  | 7 => IntUp 4 v
  | 8 => IntAt2 g (13) (991) v w
  | 9 => ∃ z : Int, v = .int .i64 z ∧ 13 ≤ z ∧ z ≤ 991
  | 10 => ∃ cs : Array Value, cs.size = 4 ∧ IntRow2 (7) (37) cs ∧ LitAt B g 4 cs v w
  | 11 => v = .pointer (some ⟨g, 0, none⟩)
  | 12 => IntUp 4 v
  | 13 => IntAt2 g (7) (37) v w
  | 14 => ∃ z : Int, v = .int .i64 z ∧ 7 ≤ z ∧ z ≤ 37
  | 15 => ∃ y : Ky, v = aggKy y ∧ ShKy y
  | _ => False
theorem QKy_mono {B g : Nat} {n : Int} (j : Nat) (v : Value) (w w' : World) (_ : j < 16) (h : QKy B g n j v w) (hg : w.grownBy w' (some g)) : QKy B g n j v w' := by
  match j, h with
  | 0, h => obtain ⟨cs, h1, h2, h3⟩ := h; exact ⟨cs, h1, h2, LitAt.mono h3 hg⟩
  | 1, h => exact h
  | 2, h => exact h
  | 3, h => exact IntAt2.mono h hg
  | 4, h => exact h
  | 5, h => obtain ⟨cs, h1, h2, h3⟩ := h; exact ⟨cs, h1, h2, LitAt.mono h3 hg⟩
  | 6, h => exact h
  | 7, h => exact h
  | 8, h => exact IntAt2.mono h hg
  | 9, h => exact h
  | 10, h => obtain ⟨cs, h1, h2, h3⟩ := h; exact ⟨cs, h1, h2, LitAt.mono h3 hg⟩
  | 11, h => exact h
  | 12, h => exact h
  | 13, h => exact IntAt2.mono h hg
  | 14, h => exact h
  | 15, h => exact h
def FinKy (W w0 : World) (g m : Nat) (Fr : (Nat → Value) → Act) (a : Act) (w' : World) : Prop := ∃ (x : Nat → Value) (y : Ky), a = Fr x ∧ w'.heap[w0.heap.size]? = some (.cells #[.int .i64 y.one, .int .i64 y.two, .int .i64 y.exp] 24 (0, 0)) ∧ ShKy y ∧ Rd W w' g m ∧ w0.grownBy w' (some g)
theorem lit_ky (j : Nat) (hj : j < 6) : ∃ y : Ky, ShKy y ∧ (#[.int .i64 0, .int .i64 0, .int .i64 0, .int .i64 61, .int .i64 61, .int .i64 17, .int .i64 61, .int .i64 53, .int .i64 6, .int .i64 60, .int .i64 53, .int .i64 17, .int .i64 7, .int .i64 53, .int .i64 17, .int .i64 61, .int .i64 53, .int .i64 1001] : Array Value)[j * 3]? = some (.int .i64 y.one) ∧ (#[.int .i64 0, .int .i64 0, .int .i64 0, .int .i64 61, .int .i64 61, .int .i64 17, .int .i64 61, .int .i64 53, .int .i64 6, .int .i64 60, .int .i64 53, .int .i64 17, .int .i64 7, .int .i64 53, .int .i64 17, .int .i64 61, .int .i64 53, .int .i64 1001] : Array Value)[j * 3 + 1]? = some (.int .i64 y.two) ∧ (#[.int .i64 0, .int .i64 0, .int .i64 0, .int .i64 61, .int .i64 61, .int .i64 17, .int .i64 61, .int .i64 53, .int .i64 6, .int .i64 60, .int .i64 53, .int .i64 17, .int .i64 7, .int .i64 53, .int .i64 17, .int .i64 61, .int .i64 53, .int .i64 1001] : Array Value)[j * 3 + 2]? = some (.int .i64 y.exp) := by
  obtain rfl | rfl | rfl | rfl | rfl | rfl : j = 0 ∨ j = 1 ∨ j = 2 ∨ j = 3 ∨ j = 4 ∨ j = 5 := by omega
  · exact ⟨⟨0, 0, 0⟩, by simp [ShKy, ShI] <;> decide, rfl, rfl, rfl⟩
  · exact ⟨⟨61, 61, 17⟩, by simp [ShKy, ShI] <;> decide, rfl, rfl, rfl⟩
  · exact ⟨⟨61, 53, 6⟩, by simp [ShKy, ShI] <;> decide, rfl, rfl, rfl⟩
  · exact ⟨⟨60, 53, 17⟩, by simp [ShKy, ShI] <;> decide, rfl, rfl, rfl⟩
  · exact ⟨⟨7, 53, 17⟩, by simp [ShKy, ShI] <;> decide, rfl, rfl, rfl⟩
  · exact ⟨⟨61, 53, 1001⟩, by simp [ShKy, ShI] <;> decide, rfl, rfl, rfl⟩
set_option maxRecDepth 100000 in
set_option maxHeartbeats 8000000 in
theorem ky_draw (W w : World) (g m : Nat) (n : Int) (h : Rd W w g m) (hm : m ≤ 700000) (hn1 : -1000000 ≤ n) (hn2 : n ≤ 1000000) :
    Calls Try.prog 26 #[.pointer (some ⟨g, 0, none⟩), .int .i64 n] w (DrewKy W w g (m + 4)) := by
  have hlt := h.lt
  have hlo := h.lo
  have hWw : W.heap.size ≤ w.heap.size := h.bel.size
  obtain ⟨w1, hw1⟩ : ∃ w1, w.alloc (.cells #[.int .i64 0, .int .i64 0, .int .i64 0] 24) = w1 := ⟨_, rfl⟩
  have hr1 : Rd W w1 g m := by rw [← hw1]; exact h.alloc _
  have hz1 : w1.heap[w.heap.size]? = some (.cells #[.int .i64 0, .int .i64 0, .int .i64 0] 24 (0, 0)) := by rw [← hw1]; exact heap_alloc_new w _
  have hgw0 : w.grownBy w1 (some g) := by rw [← hw1]; exact grown_alloc w _ _
  have hs0 : w.heap.size < w1.heap.size := by rw [← hw1]; simp
  go_enter Try.func26, Try.ntmps26
  go_wp2_with fail
  have hw1 := Lib.hid hw1
  refine (odd_any W _ g m n hr1 (by omega) hn1 hn2).mono ?_
  rintro e wo ⟨b, rfl, hr2, hg2⟩
  have hz2 : wo.heap[w.heap.size]? = some (.cells #[.int .i64 0, .int .i64 0, .int .i64 0] 24 (0, 0)) := (hg2.block w.heap.size hs0 (by intro e; injection e; omega)).trans hz1
  have hgw1 : w.grownBy wo (some g) := grown_trans hgw0 hg2
  have hs1 : w.heap.size < wo.heap.size := Nat.lt_of_lt_of_le hs0 hg2.size
  clear hg2
  cases b with
  | false =>
    go_wp2
    obtain ⟨Fr, hFr⟩ : ∃ Fr : (Nat → Value) → Act, Fr = (fun x => { tmps := #[.pointer (some ⟨g, 0, none⟩), .int .i64 n, undef, undef, .pointer (some ⟨w.heap.size, 0, none⟩), .pointer (some ⟨g, 0, none⟩), .int .i64 n, .bool false, undef, undef, undef, undef, undef, undef, undef, undef, undef, undef, undef, x 0, x 1, x 2, x 3, x 4, x 5, x 6, x 7, x 8, x 9, x 10, x 11, x 12, x 13, x 14, x 15], defers := [] }) := ⟨_, rfl⟩
    refine draw_region (n := 16) (by kernel_rfl) rfl W g (m + 1) [(2, 1), (7, 1), (12, 1)] Fr
      (QKy wo.heap.size g n) (FinKy W w g ((m + 1) + 3) Fr) (by kernel_rfl) (by kernel_rfl) (fun _ => undef) (by rw [hFr]) hr2 QKy_mono ?_ ?_ ?_
    · intro i o f x w2 hi ho hf hp hG hQ K hK
      subst hFr
      have hB : wo.heap.size ≤ w2.heap.size := hG.gr.size
      have hcost := cost_all [(2, 1), (7, 1), (12, 1)] f
      have hca : costAll [(2, 1), (7, 1), (12, 1)] = 3 := rfl
      obtain rfl | rfl | rfl | rfl | rfl | rfl | rfl | rfl | rfl | rfl | rfl | rfl | rfl | rfl | rfl | rfl : i = 0 ∨ i = 1 ∨ i = 2 ∨ i = 3 ∨ i = 4 ∨ i = 5 ∨ i = 6 ∨ i = 7 ∨ i = 8 ∨ i = 9 ∨ i = 10 ∨ i = 11 ∨ i = 12 ∨ i = 13 ∨ i = 14 ∨ i = 15 := by omega
      · simp at ho
        subst ho
        rw [if_pos (by rfl)]
        go_simp
        have hsr : IntRow2 (11) (997) #[.int .i64 (61), .int .i64 (59), .int .i64 (997), .int .i64 (11)] := by
          intro j h
          have h' : j < 4 := h
          obtain rfl | rfl | rfl | rfl : j = 0 ∨ j = 1 ∨ j = 2 ∨ j = 3 := by omega
          all_goals exact ⟨_, rfl, by omega, by omega⟩
        have key := hK (.slice (some ⟨w2.heap.size, 0, none⟩) 4 4) (w2.alloc (.cells #[.int .i64 (61), .int .i64 (59), .int .i64 (997), .int .i64 (11)] 3)) ⟨#[.int .i64 (61), .int .i64 (59), .int .i64 (997), .int .i64 (11)], rfl, hsr, LitAt.new hB hG.lt⟩ (grown_alloc _ _ _) (hG.alloc _ 0)
        simp [setX] at key
        exact key
      · simp at ho
        subst ho
        rw [if_pos (by rfl)]
        go_simp
        exact hK _ _ rfl (grown_refl _ _) (hG.step 1)
      · simp at ho
        subst ho
        have p1 : f 1 = true := hp { on := 1, ground := .data } (by simp) rfl
        have q1 := hQ 1 (by omega) p1
        have q1 : x 1 = .pointer (some ⟨g, 0, none⟩) := q1
        rw [if_pos (by rfl)]
        go_simp
        refine (pick_any W _ g ((m + 1) + costF [(2, 1), (7, 1), (12, 1)] f) 4 hG.rd' (by omega)).mono ?_
        rintro e w' ⟨v, v0, v1, _, rfl, hr', hg'⟩
        have key := hK _ _ ⟨v, rfl, v0, v1 (by omega)⟩ hg' (hG.call (i := 2) (c := 1) (by simp) hf hr' hg')
        simp [setX, q1] at key
        exact key
      · simp at ho
        subst ho
        have p0 : f 0 = true := hp { on := 0, ground := .data } (by simp) rfl
        have q0 := hQ 0 (by omega) p0
        have p2 : f 2 = true := hp { on := 2, ground := .data } (by simp) rfl
        have q2 := hQ 2 (by omega) p2
        obtain ⟨cs, hcs, hsr, hla⟩ := q0
        obtain ⟨z, hz, z0, z1⟩ := q2
        obtain ⟨b, hb, hs⟩ := LitAt.atI hla hsr hcs z0 z1
        rw [if_pos (by rfl)]
        go_simp
        have key := hK _ _ hs (grown_refl _ _) (hG.step 3)
        simp [setX, hz, hb] at key
        exact key
      · simp at ho
        subst ho
        have p3 : f 3 = true := hp { on := 3, ground := .data } (by simp) rfl
        have q3 := hQ 3 (by omega) p3
        obtain ⟨b, j, s, hx, _, _, hc, hs, ht⟩ := q3
        rw [if_pos (by rfl)]
        go_simp
        have key := hK _ _ ⟨s, rfl, hs, ht⟩ (grown_refl _ _) (hG.step 4)
        simp [setX, hx] at key
        exact key
      · simp at ho
        subst ho
        rw [if_pos (by rfl)]
        go_simp
        have hsr : IntRow2 (13) (991) #[.int .i64 (53), .int .i64 (47), .int .i64 (991), .int .i64 (13)] := by
          intro j h
          have h' : j < 4 := h
          obtain rfl | rfl | rfl | rfl : j = 0 ∨ j = 1 ∨ j = 2 ∨ j = 3 := by omega
          all_goals exact ⟨_, rfl, by omega, by omega⟩
        have key := hK (.slice (some ⟨w2.heap.size, 0, none⟩) 4 4) (w2.alloc (.cells #[.int .i64 (53), .int .i64 (47), .int .i64 (991), .int .i64 (13)] 3)) ⟨#[.int .i64 (53), .int .i64 (47), .int .i64 (991), .int .i64 (13)], rfl, hsr, LitAt.new hB hG.lt⟩ (grown_alloc _ _ _) (hG.alloc _ 5)
        simp [setX] at key
        exact key
      · simp at ho
        subst ho
        rw [if_pos (by rfl)]
        go_simp
        exact hK _ _ rfl (grown_refl _ _) (hG.step 6)
      · simp at ho
        subst ho
        have p6 : f 6 = true := hp { on := 6, ground := .data } (by simp) rfl
        have q6 := hQ 6 (by omega) p6
        have q6 : x 6 = .pointer (some ⟨g, 0, none⟩) := q6
        rw [if_pos (by rfl)]
        go_simp
        refine (pick_any W _ g ((m + 1) + costF [(2, 1), (7, 1), (12, 1)] f) 4 hG.rd' (by omega)).mono ?_
        rintro e w' ⟨v, v0, v1, _, rfl, hr', hg'⟩
        have key := hK _ _ ⟨v, rfl, v0, v1 (by omega)⟩ hg' (hG.call (i := 7) (c := 1) (by simp) hf hr' hg')
        simp [setX, q6] at key
        exact key
      · simp at ho
        subst ho
        have p5 : f 5 = true := hp { on := 5, ground := .data } (by simp) rfl
        have q5 := hQ 5 (by omega) p5
        have p7 : f 7 = true := hp { on := 7, ground := .data } (by simp) rfl
        have q7 := hQ 7 (by omega) p7
        obtain ⟨cs, hcs, hsr, hla⟩ := q5
        obtain ⟨z, hz, z0, z1⟩ := q7
        obtain ⟨b, hb, hs⟩ := LitAt.atI hla hsr hcs z0 z1
        rw [if_pos (by rfl)]
        go_simp
        have key := hK _ _ hs (grown_refl _ _) (hG.step 8)
        simp [setX, hz, hb] at key
        exact key
      · simp at ho
        subst ho
        have p8 : f 8 = true := hp { on := 8, ground := .data } (by simp) rfl
        have q8 := hQ 8 (by omega) p8
        obtain ⟨b, j, s, hx, _, _, hc, hs, ht⟩ := q8
        rw [if_pos (by rfl)]
        go_simp
        have key := hK _ _ ⟨s, rfl, hs, ht⟩ (grown_refl _ _) (hG.step 9)
        simp [setX, hx] at key
        exact key
      · simp at ho
        subst ho
        rw [if_pos (by rfl)]
        go_simp
        have hsr : IntRow2 (7) (37) #[.int .i64 (17), .int .i64 (7), .int .i64 (19), .int .i64 (37)] := by
          intro j h
          have h' : j < 4 := h
          obtain rfl | rfl | rfl | rfl : j = 0 ∨ j = 1 ∨ j = 2 ∨ j = 3 := by omega
          all_goals exact ⟨_, rfl, by omega, by omega⟩
        have key := hK (.slice (some ⟨w2.heap.size, 0, none⟩) 4 4) (w2.alloc (.cells #[.int .i64 (17), .int .i64 (7), .int .i64 (19), .int .i64 (37)] 3)) ⟨#[.int .i64 (17), .int .i64 (7), .int .i64 (19), .int .i64 (37)], rfl, hsr, LitAt.new hB hG.lt⟩ (grown_alloc _ _ _) (hG.alloc _ 10)
        simp [setX] at key
        exact key
      · simp at ho
        subst ho
        rw [if_pos (by rfl)]
        go_simp
        exact hK _ _ rfl (grown_refl _ _) (hG.step 11)
      · simp at ho
        subst ho
        have p11 : f 11 = true := hp { on := 11, ground := .data } (by simp) rfl
        have q11 := hQ 11 (by omega) p11
        have q11 : x 11 = .pointer (some ⟨g, 0, none⟩) := q11
        rw [if_pos (by rfl)]
        go_simp
        refine (pick_any W _ g ((m + 1) + costF [(2, 1), (7, 1), (12, 1)] f) 4 hG.rd' (by omega)).mono ?_
        rintro e w' ⟨v, v0, v1, _, rfl, hr', hg'⟩
        have key := hK _ _ ⟨v, rfl, v0, v1 (by omega)⟩ hg' (hG.call (i := 12) (c := 1) (by simp) hf hr' hg')
        simp [setX, q11] at key
        exact key
      · simp at ho
        subst ho
        have p10 : f 10 = true := hp { on := 10, ground := .data } (by simp) rfl
        have q10 := hQ 10 (by omega) p10
        have p12 : f 12 = true := hp { on := 12, ground := .data } (by simp) rfl
        have q12 := hQ 12 (by omega) p12
        obtain ⟨cs, hcs, hsr, hla⟩ := q10
        obtain ⟨z, hz, z0, z1⟩ := q12
        obtain ⟨b, hb, hs⟩ := LitAt.atI hla hsr hcs z0 z1
        rw [if_pos (by rfl)]
        go_simp
        have key := hK _ _ hs (grown_refl _ _) (hG.step 13)
        simp [setX, hz, hb] at key
        exact key
      · simp at ho
        subst ho
        have p13 : f 13 = true := hp { on := 13, ground := .data } (by simp) rfl
        have q13 := hQ 13 (by omega) p13
        obtain ⟨b, j, s, hx, _, _, hc, hs, ht⟩ := q13
        rw [if_pos (by rfl)]
        go_simp
        have key := hK _ _ ⟨s, rfl, hs, ht⟩ (grown_refl _ _) (hG.step 14)
        simp [setX, hx] at key
        exact key
      · simp at ho
        subst ho
        have p4 : f 4 = true := hp { on := 4, ground := .data } (by simp) rfl
        have q4 := hQ 4 (by omega) p4
        obtain ⟨z4, h4, l4, m4⟩ := q4
        have p9 : f 9 = true := hp { on := 9, ground := .data } (by simp) rfl
        have q9 := hQ 9 (by omega) p9
        obtain ⟨z9, h9, l9, m9⟩ := q9
        have p14 : f 14 = true := hp { on := 14, ground := .data } (by simp) rfl
        have q14 := hQ 14 (by omega) p14
        obtain ⟨z14, h14, l14, m14⟩ := q14
        rw [if_pos (by rfl)]
        go_simp
        have key := hK _ _ ⟨⟨z4, z9, z14⟩, rfl, (show ShI z4 from ⟨by omega, by omega⟩), (show ShI z9 from ⟨by omega, by omega⟩), (show ShI z14 from ⟨by omega, by omega⟩)⟩ (grown_refl _ _) (hG.step 15)
        simp [setX, aggKy, h4, h9, h14] at key ⊢
        exact key
    · intro o f x w2 ho hp hG hQ K hK
      subst hFr
      have hcost := cost_all [(2, 1), (7, 1), (12, 1)] f
      have hca : costAll [(2, 1), (7, 1), (12, 1)] = 3 := rfl
      simp at ho
      subst ho
      have p15 : f 15 = true := hp { on := 15, ground := .data } (by simp) rfl
      obtain ⟨y, hb0, ly⟩ := hQ 15 (by omega) p15
      obtain ⟨one, two, exp⟩ := y
      have hrow : w2.heap[w.heap.size]? = some (.cells #[.int .i64 0, .int .i64 0, .int .i64 0] 24 (0, 0)) := by
        rw [hG.gr.block w.heap.size (by show _ < wo.heap.size; omega) (by intro e; injection e; omega)]; exact hz2
      have c0 := cell_of_row w2 w.heap.size 0 _ _ (0, 0) hrow
      have c1 := cell_of_row w2 w.heap.size 1 _ _ (0, 0) hrow
      have c2 := cell_of_row w2 w.heap.size 2 _ _ (0, 0) hrow
      have f0 : ∀ j, w2.frozen? ⟨w.heap.size, j, none⟩ = false := fun j => by simp [World.frozen?, hrow]
      have g0 := heap_setCell_same w2 w.heap.size 0 _ _ (.int .i64 one) hrow
      have g1 := heap_setCell_same _ w.heap.size 1 _ _ (.int .i64 two) g0
      have g2 := heap_setCell_same _ w.heap.size 2 _ _ (.int .i64 exp) g1
      have GR := Lib.hid g2
      have HD : DrawG W w g (m + 1) [(2, 1), (7, 1), (12, 1)] f w2 := ⟨hG.rd, grown_trans hgw1 ⟨hG.gr.os, hG.gr.tape, hG.gr.output, hG.gr.size, hG.gr.block⟩⟩
      have HG := Lib.hid (((HD.store (b := w.heap.size) (Nat.le_refl _) (by omega) hWw 0 (.int .i64 one)).store (b := w.heap.size) (Nat.le_refl _) (by omega) hWw 1 (.int .i64 two)).store (b := w.heap.size) (Nat.le_refl _) (by omega) hWw 2 (.int .i64 exp))
      clear g0 g1 g2 HD
      have hb : x 15 = .agg #[.int .i64 one, .int .i64 two, .int .i64 exp] := hb0
      clear hb0
      rw [if_pos (by rfl)]
      go_simp
      refine hK _ _ ⟨x, ⟨one, two, exp⟩, ?_, ?_, ly, HG.out.rd'.more (by omega), HG.out.gr⟩
      · simp [hb]
      · exact GR.out
    · rintro a w3 ⟨x, y, rfl, hrow, ly, hr3, hg3⟩
      subst hFr
      obtain ⟨one, two, exp⟩ := y
      have r0 := cell_of_row w3 w.heap.size 0 _ _ (0, 0) hrow
      have r1 := cell_of_row w3 w.heap.size 1 _ _ (0, 0) hrow
      have r2 := cell_of_row w3 w.heap.size 2 _ _ (0, 0) hrow
      go_wp2
      refine bodyPost_ret (v := .agg #[.int .i64 one, .int .i64 two, .int .i64 exp]) (by simp [results, Try.results26, go_sem, r0, r1, r2]) rfl ⟨⟨one, two, exp⟩, rfl, ly, hr3, hg3⟩
  | true =>
    have hlt2 := hr2.lt
    go_wp2_with fail
    refine (pick_any W _ g (m + 1) 6 (hr2.alloc _) (by omega)).mono ?_
    rintro e w3 ⟨v, v0, v1, _, rfl, hr3, hg3⟩
    have v1 := v1 (by omega)
    have k0 := fun i => cell_kept hg3 hlt2 i
    have hz3 := (hg3.block w.heap.size (by simp; omega) (by intro e; injection e; omega)).trans ((Below.heap_alloc wo _ w.heap.size hs1).trans hz2)
    have hgw3 : w.grownBy w3 (some g) := grown_trans hgw1 (grown_trans (grown_alloc wo _ _) hg3)
    obtain ⟨j, rfl⟩ : ∃ j : Nat, v = j := ⟨v.toNat, by omega⟩
    have hj : j < 6 := by omega
    obtain ⟨⟨one, two, exp⟩, hsh, e0, e1, e2⟩ := lit_ky j hj
    have d0 := (k0 (j * 3)).trans e0
    have d1 := (k0 (j * 3 + 1)).trans e1
    have d2 := (k0 (j * 3 + 2)).trans e2
    simp only at d0 d1 d2
    have c0 := cell_of_row w3 w.heap.size 0 _ _ (0, 0) hz3
    have c1 := cell_of_row w3 w.heap.size 1 _ _ (0, 0) hz3
    have c2 := cell_of_row w3 w.heap.size 2 _ _ (0, 0) hz3
    have f0 : ∀ j, w3.frozen? ⟨w.heap.size, j, none⟩ = false := fun j => by simp [World.frozen?, hz3]
    have hj0 : (0 : Int) ≤ (j : Int) := by omega
    have hj4 : (j : Int) < 6 := by omega
    have HSH := Lib.hid hsh
    have HR := Lib.hid (((hr3.grown (only_setCell' w3 w.heap.size 0 (.int .i64 one)) (by intro e; injection e; omega) (by intro k hk; injection hk; omega)).grown (only_setCell' _ w.heap.size 1 (.int .i64 two)) (by intro e; injection e; omega) (by intro k hk; injection hk; omega)).grown (only_setCell' _ w.heap.size 2 (.int .i64 exp)) (by intro e; injection e; omega) (by intro k hk; injection hk; omega))
    have HG := Lib.hid (gs_set (gs_set (gs_set hgw3 (Nat.le_refl w.heap.size) 0 (.int .i64 one)) (Nat.le_refl w.heap.size) 1 (.int .i64 two)) (Nat.le_refl w.heap.size) 2 (.int .i64 exp))
    clear k0 hg3 hr3 hgw3 e0 e1 e2 hsh hr2 hz2 hz1 hr1 hgw1 hgw0 hz3
    go_wp2
    refine bodyPost_ret (v := .agg #[.int .i64 one, .int .i64 two, .int .i64 exp]) (by simp [results, Try.results26, go_sem, c0, c1, c2]) rfl ⟨⟨one, two, exp⟩, rfl, HSH.out, HR.out.more (by omega), HG.out⟩
def DrawnKy (w : World) (e : Ending) (w' : World) : Prop := ∃ y : Ky, e = .returned (aggKy y) ∧ ShKy y ∧ Below w.heap.size w w'
set_option maxRecDepth 100000 in
set_option maxHeartbeats 1000000 in
theorem drawKyV_any (w : World) (A : Option Addr) (n c : Nat) (h : CodeArg w A n c) : Calls Try.prog 11 #[.slice A n c] w (DrawnKy w) := by
  obtain ⟨w1, hw1⟩ : ∃ w1, w.alloc (.cells #[.int .i64 0, .int .i64 0, .int .i64 0] 24) = w1 := ⟨_, rfl⟩
  have hb1 : Below w.heap.size w w1 := by rw [← hw1]; exact (Below.refl _ _).alloc (Nat.le_refl _) _
  have h1 := codeArg_below h hb1
  have hres := Lib.hid (fun wX (hX : Below w1.heap.size w1 wX) => row3 hw1 hX)
  have hfr := Lib.hid (fun wX (hX : Below w1.heap.size w1 wX) => frzG hw1 hX)
  have hrf : Hid (w.heap.size ≤ w.heap.size) := Lib.hid (Nat.le_refl _)
  go_enter Try.func11, Try.ntmps11
  go_wp2_with (go_at_call 27; refine (open_any w1 A n c h1).mono ?_; rintro e w2 ⟨rfl, hr2⟩)
  have hw1 := Lib.hid hw1
  refine (ky_draw w1 w2 w1.heap.size 0 2 hr2 (by omega) (by omega) (by omega)).mono ?_
  rintro e w3 ⟨⟨one, two, exp⟩, rfl, hsh, hr3, hg3⟩
  simp only [aggKy]
  have hb3 := hr3.bel
  obtain ⟨c0, c1, c2⟩ := hres.out w3 hb3
  have cf := hfr.out w3 hb3
  have HW := Lib.hid (below_trans' hb1 hb3)
  clear hb3 hr3 hg3 hr2
  go_wp2
  refine bodyPost_ret (v := .agg #[.int .i64 one, .int .i64 two, .int .i64 exp]) (by simp [results, Try.results11, go_sem, c0, c1, c2]) rfl ⟨⟨one, two, exp⟩, rfl, hsh, ?_⟩
  repeat (first | with_reducible exact HW.out | with_reducible refine Below.setCell ?_ hrf.out _)
set_option maxRecDepth 100000 in
set_option maxHeartbeats 1000000 in
theorem drawKyM_any (w : World) (A : Option Addr) (n c : Nat) (h : CodeArg w A n c) : Calls Try.prog 15 #[.slice A n c] w (DrawnKy w) := by
  obtain ⟨w1, hw1⟩ : ∃ w1, w.alloc (.cells #[.int .i64 0, .int .i64 0, .int .i64 0] 24) = w1 := ⟨_, rfl⟩
  have hb1 : Below w.heap.size w w1 := by rw [← hw1]; exact (Below.refl _ _).alloc (Nat.le_refl _) _
  have h1 := codeArg_below h hb1
  have hres := Lib.hid (fun wX (hX : Below w1.heap.size w1 wX) => row3 hw1 hX)
  have hfr := Lib.hid (fun wX (hX : Below w1.heap.size w1 wX) => frzG hw1 hX)
  have hrf : Hid (w.heap.size ≤ w.heap.size) := Lib.hid (Nat.le_refl _)
  go_enter Try.func15, Try.ntmps15
  go_wp2_with (go_at_call 27; refine (open_any w1 A n c h1).mono ?_; rintro e w2 ⟨rfl, hr2⟩)
  have hw1 := Lib.hid hw1
  refine (ky_draw w1 w2 w1.heap.size 0 6 hr2 (by omega) (by omega) (by omega)).mono ?_
  rintro e w3 ⟨⟨one, two, exp⟩, rfl, hsh, hr3, hg3⟩
  simp only [aggKy]
  have hb3 := hr3.bel
  obtain ⟨c0, c1, c2⟩ := hres.out w3 hb3
  have cf := hfr.out w3 hb3
  have HW := Lib.hid (below_trans' hb1 hb3)
  clear hb3 hr3 hg3 hr2
  go_wp2
  refine bodyPost_ret (v := .agg #[.int .i64 one, .int .i64 two, .int .i64 exp]) (by simp [results, Try.results15, go_sem, c0, c1, c2]) rfl ⟨⟨one, two, exp⟩, rfl, hsh, ?_⟩
  repeat (first | with_reducible exact HW.out | with_reducible refine Below.setCell ?_ hrf.out _)
def DrawnKyI (w : World) (e : Ending) (w' : World) : Prop := ∃ (y : Ky) (x : Int), e = .returned (.tuple #[aggKy y, .int .i64 x]) ∧ ShKy y ∧ Below w.heap.size w w'
set_option maxRecDepth 100000 in
set_option maxHeartbeats 4000000 in
theorem drawSgN_any (w : World) (A : Option Addr) (n c : Nat) (h : CodeArg w A n c) : Calls Try.prog 18 #[.slice A n c] w (DrawnKyI w) := by
  obtain ⟨w1, hw1⟩ : ∃ w1, w.alloc (.cells #[.int .i64 0, .int .i64 0, .int .i64 0] 24) = w1 := ⟨_, rfl⟩
  have hb1 : Below w.heap.size w w1 := by rw [← hw1]; exact (Below.refl _ _).alloc (Nat.le_refl _) _
  have h1 := codeArg_below h hb1
  have hs1 : w.heap.size < w1.heap.size := by rw [← hw1]; simp
  have hres := Lib.hid (fun wX (hX : Below w1.heap.size w1 wX) => row3 hw1 hX)
  have hfr := Lib.hid (fun wX (hX : Below w1.heap.size w1 wX) => frzG hw1 hX)
  have hrf : Hid (w.heap.size ≤ w.heap.size) := Lib.hid (Nat.le_refl _)
  go_enter Try.func18, Try.ntmps18
  go_wp2_with (go_at_call 27; refine (open_any w1 A n c h1).mono ?_; rintro e w2 ⟨rfl, hr2⟩)
  have hw1 := Lib.hid hw1
  refine (ky_draw w1 w2 w1.heap.size 0 9 hr2 (by omega) (by omega) (by omega)).mono ?_
  rintro e w3 ⟨⟨one, two, exp⟩, rfl, hsh, hr3, hg3⟩
  simp only [aggKy]
  obtain ⟨w4, hw4⟩ : ∃ w4, w3.alloc (.cells #[.int .i64 one, .int .i64 two, .int .i64 exp] 24) = w4 := ⟨_, rfl⟩
  have hr4 : Rd w1 w4 w1.heap.size (0 + 4) := by rw [← hw4]; exact hr3.alloc _
  have hrow := Lib.hid (fun wX (hX : Below w4.heap.size w4 wX) => row3 hw4 hX)
  obtain ⟨y0, y1, y2⟩ := hrow.out w4 (Below.refl _ _)
  have hg4 : w3.heap.size < w4.heap.size := by rw [← hw4]; simp
  have hb4 := Lib.hid hr4.bel
  have hSH := Lib.hid hsh
  have hng : ¬ (w3.heap.size = w1.heap.size) := by have := hr3.lt; omega
  have hlt3 := hr3.lt
  obtain ⟨n', hn'⟩ : ∃ n', kyM ⟨one, two, exp⟩ = n' := ⟨_, rfl⟩
  have HN := Lib.hid hn'
  have hnr := kyM_rng ⟨one, two, exp⟩
  rw [hn'] at hnr
  have hbk : ∀ (wY wX : World), Below w4.heap.size w4 wY → wY.grownBy wX (some w1.heap.size) → wX.cell? ⟨w3.heap.size, 0, none⟩ = some (.int .i64 one) ∧ wX.cell? ⟨w3.heap.size, 1, none⟩ = some (.int .i64 two) ∧ wX.cell? ⟨w3.heap.size, 2, none⟩ = some (.int .i64 exp) := fun wY wX hY hX => by
    obtain ⟨a0, a1, a2⟩ := hrow.out wY hY
    have hl : w3.heap.size < wY.heap.size := Nat.lt_of_lt_of_le hg4 hY.size
    exact ⟨by rw [kept_cell hX _ 0 hng hl]; exact a0, by rw [kept_cell hX _ 1 hng hl]; exact a1, by rw [kept_cell hX _ 2 hng hl]; exact a2⟩
  have hbk := Lib.hid hbk
  clear hr2 hr3 hg3 hn' hsh
  go_wp2_with fail
  have hw4 := Lib.hid hw4
  first | go_region_with (first
    | (go_at_call 17; (refine (kyS_mod one two exp _).mono ?_; rintro e w5 ⟨rfl, hb5⟩; rw [HN.out]; have hB5 : Hid (Below w4.heap.size w4 w5) := Lib.hid (below_trans' (Below.drew (Below.refl _ _)) hb5); have hr5 := rd_below hr4.drew hb5; obtain ⟨x0, x1, x2⟩ := hrow.out w5 hB5.out; clear hb5))
    | (go_at_call 36; (refine (belo_draw w1 _ w1.heap.size _ (max 1 n') hr5 (by omega) (by omega) (by omega)).mono ?_; rintro e w6 ⟨z, rfl, z0, z1, hr6, hg6⟩; obtain ⟨v0, v1, v2⟩ := hbk.out _ _ hB5.out hg6; have hB6 := hr6.bel; obtain ⟨c0, c1, c2⟩ := hres.out w6 hB6; have cf := hfr.out w6 hB6; have HW := Lib.hid (below_trans' hb1 hB6); clear hg6 hB6))) | fail
  all_goals
    go_wp2
    refine bodyPost_ret (v := .tuple #[.agg #[.int .i64 one, .int .i64 two, .int .i64 exp], .int .i64 z]) (by simp [results, Try.results18, go_sem, c0, c1, c2]) rfl ⟨⟨one, two, exp⟩, z, rfl, hSH.out, ?_⟩
    repeat (first | with_reducible exact HW.out | with_reducible refine Below.setCell ?_ hrf.out _)
/-- what the operations of the region yield -/
def QOpnD (B g : Nat) (mm : Int) (j : Nat) (v : Value) (w : World) : Prop :=
  match j with
  | 0 => v = .int .i64 mm
  | 1 => v = .pointer (some ⟨g, 0, none⟩)
  | 2 => IntIn 0 59 v
  | 3 => IntIn 3 62 v
  | 4 => IntLit B g 4 2 1001 v w
  | 5 => IntLit B g 7 0 3 v w
  | 6 => v = .pointer (some ⟨g, 0, none⟩)
  | 7 => IntIn 0 6 v
  | 8 => IntAt2 g 0 3 v w
  | 9 => IntIn 0 3 v
  | 10 => IntAt2 g 2 1001 v w
  | 11 => IntIn 2 1001 v
  | 12 => v = .pointer (some ⟨g, 0, none⟩)
  | 13 => v = .int .i64 mm
  | 14 => IntIn 0 2000002 v
  | 15 => v = .int .i64 mm
  | 16 => IntIn 2 1001 v
  | 17 => IntIn 0 2000002 v
  | _ => False
theorem QOpnD_mono {B g : Nat} {mm : Int} (j : Nat) (v : Value) (w w' : World) (_ : j < 18) (h : QOpnD B g mm j v w) (hg : w.grownBy w' (some g)) : QOpnD B g mm j v w' := by
  match j, h with
  | 0, h => exact h
  | 1, h => exact h
  | 2, h => exact h
  | 3, h => exact h
  | 4, h => exact IntLit.mono h hg
  | 5, h => exact IntLit.mono h hg
  | 6, h => exact h
  | 7, h => exact h
  | 8, h => exact IntAt2.mono h hg
  | 9, h => exact h
  | 10, h => exact IntAt2.mono h hg
  | 11, h => exact h
  | 12, h => exact h
  | 13, h => exact h
  | 14, h => exact h
  | 15, h => exact h
  | 16, h => exact h
  | 17, h => exact h
set_option maxRecDepth 100000 in
set_option maxHeartbeats 4000000 in
theorem drawOpn_any (w : World) (A : Option Addr) (n c : Nat) (h : CodeArg w A n c) : Calls Try.prog 22 #[.slice A n c] w (DrawnInt3 w) := by
  go_enter Try.func22, Try.ntmps22
  go_upto_region 3 with (first | (go_at_call 27; refine (open_any w A n c h).mono ?_; rintro e w2 ⟨rfl, hr2⟩) | (go_at_call 39; refine (modu_draw w _ w.heap.size 0 hr2 (by omega)).mono ?_; rintro e w3 ⟨mm, rfl, mm0, mm1, hr3, hg3⟩))
  obtain ⟨Fr, hFr⟩ : ∃ Fr : (Nat → Value) → Act, Fr = (fun x => { tmps := #[.slice A n c, undef, x 15, x 16, x 17, .pointer (some ⟨w.heap.size, 0, none⟩), .int .i64 mm, .slice A n c, .pointer (some ⟨w.heap.size, 0, none⟩), .pointer (some ⟨w.heap.size, 0, none⟩), .int .i64 mm, x 0, x 1, x 2, x 3, x 4, x 5, x 6, x 7, x 8, x 9, x 10, x 11, x 12, x 13, x 14], defers := [] }) := ⟨_, rfl⟩
  refine pick_region (n := 18) (by kernel_rfl) rfl w w.heap.size (2) [(2, 1), (7, 1), (14, 2)] Fr
    (QOpnD w3.heap.size w.heap.size mm) (by kernel_rfl) (fun j => if j = 15 then .int .i64 0 else if j = 16 then .int .i64 0 else if j = 17 then .int .i64 0 else undef) (by rw [hFr]; rfl) hr3 QOpnD_mono ?_ ?_
  · intro i o f x wx hi ho hf hp hG hQ K hK
    subst hFr
    have hB : w3.heap.size ≤ wx.heap.size := hG.gr.size
    have hcost := cost_all [(2, 1), (7, 1), (14, 2)] f
    have hca : costAll [(2, 1), (7, 1), (14, 2)] = 4 := rfl
    obtain rfl | rfl | rfl | rfl | rfl | rfl | rfl | rfl | rfl | rfl | rfl | rfl | rfl | rfl | rfl | rfl | rfl | rfl : i = 0 ∨ i = 1 ∨ i = 2 ∨ i = 3 ∨ i = 4 ∨ i = 5 ∨ i = 6 ∨ i = 7 ∨ i = 8 ∨ i = 9 ∨ i = 10 ∨ i = 11 ∨ i = 12 ∨ i = 13 ∨ i = 14 ∨ i = 15 ∨ i = 16 ∨ i = 17 := by omega
    · simp at ho
      subst ho
      rw [if_pos (by rfl)]
      go_simp
      have key := hK _ _ rfl (grown_refl _ _) (hG.step 0)
      simp [setX] at key
      exact key
    · simp at ho
      subst ho
      rw [if_pos (by rfl)]
      go_simp
      have key := hK _ _ rfl (grown_refl _ _) (hG.step 1)
      simp [setX] at key
      exact key
    · simp at ho
      subst ho
      have p1 : f 1 = true := hp { on := 1, ground := .data } (by simp) rfl
      have q1 := hQ 1 (by omega) p1
      have q1 : x 1 = .pointer (some ⟨w.heap.size, 0, none⟩) := q1
      rw [if_pos (by rfl)]
      go_simp
      refine (pick_any w _ w.heap.size (2 + costF [(2, 1), (7, 1), (14, 2)] f) 60 hG.rd' (by omega)).mono ?_
      rintro e w' ⟨v, v0, v1, _, rfl, hr', hg'⟩
      have key := hK _ _ ⟨v, rfl, v0, by have := v1 (by omega); omega⟩ hg' (hG.call (i := 2) (c := 1) (by simp) hf hr' hg')
      simp [setX, q1] at key
      exact key
    · simp at ho
      subst ho
      have p2 : f 2 = true := hp { on := 2, ground := .data } (by simp) rfl
      have q2 := hQ 2 (by omega) p2
      obtain ⟨z2, h2, l2, m2⟩ := q2
      have iw := IntWalk.i64_in (3 + z2) (by omega)
      rw [if_pos (by rfl)]
      go_simp
      have key := hK _ _ ⟨(3 + z2), rfl, by omega, by omega⟩ (grown_refl _ _) (hG.step 3)
      simp [setX, h2] at key
      exact key
    · simp at ho
      subst ho
      have p3 : f 3 = true := hp { on := 3, ground := .data } (by simp) rfl
      have q3 := hQ 3 (by omega) p3
      obtain ⟨z3, h3, l3, m3⟩ := q3
      rw [if_pos (by rfl)]
      go_simp
      have key := hK (.slice (some ⟨wx.heap.size, 0, none⟩) 4 4) (wx.alloc (.cells #[.int .i64 z3, .int .i64 1000, .int .i64 2, .int .i64 1001] 3)) (IntLit.new rfl (intRow_cons (by omega) (by omega) (intRow_cons (by omega) (by omega) (intRow_cons (by omega) (by omega) (intRow_cons (by omega) (by omega) (intRow_nil))))) hB hG.lt) (grown_alloc _ _ _) (hG.alloc _ 4)
      simp [setX, h3] at key
      exact key
    · simp at ho
      subst ho
      rw [if_pos (by rfl)]
      go_simp
      have key := hK (.slice (some ⟨wx.heap.size, 0, none⟩) 7 7) (wx.alloc (.cells #[.int .i64 0, .int .i64 0, .int .i64 0, .int .i64 0, .int .i64 1, .int .i64 2, .int .i64 3] 3)) (IntLit.new rfl (intRow_cons (by omega) (by omega) (intRow_cons (by omega) (by omega) (intRow_cons (by omega) (by omega) (intRow_cons (by omega) (by omega) (intRow_cons (by omega) (by omega) (intRow_cons (by omega) (by omega) (intRow_cons (by omega) (by omega) (intRow_nil)))))))) hB hG.lt) (grown_alloc _ _ _) (hG.alloc _ 5)
      simp [setX] at key
      exact key
    · simp at ho
      subst ho
      rw [if_pos (by rfl)]
      go_simp
      have key := hK _ _ rfl (grown_refl _ _) (hG.step 6)
      simp [setX] at key
      exact key
    · simp at ho
      subst ho
      have p6 : f 6 = true := hp { on := 6, ground := .data } (by simp) rfl
      have q6 := hQ 6 (by omega) p6
      have q6 : x 6 = .pointer (some ⟨w.heap.size, 0, none⟩) := q6
      rw [if_pos (by rfl)]
      go_simp
      refine (pick_any w _ w.heap.size (2 + costF [(2, 1), (7, 1), (14, 2)] f) 7 hG.rd' (by omega)).mono ?_
      rintro e w' ⟨v, v0, v1, _, rfl, hr', hg'⟩
      have key := hK _ _ ⟨v, rfl, v0, by have := v1 (by omega); omega⟩ hg' (hG.call (i := 7) (c := 1) (by simp) hf hr' hg')
      simp [setX, q6] at key
      exact key
    · simp at ho
      subst ho
      have p5 : f 5 = true := hp { on := 5, ground := .data } (by simp) rfl
      have q5 := hQ 5 (by omega) p5
      have p7 : f 7 = true := hp { on := 7, ground := .data } (by simp) rfl
      have q7 := hQ 7 (by omega) p7
      obtain ⟨z7, h7, l7, m7⟩ := q7
      obtain ⟨b, hb, hs⟩ := IntLit.at q5 (z := z7) (by omega) (by omega)
      have hiz : (z7 : Int) < 7 := by omega
      have hi0 : (0 : Int) ≤ z7 := by omega
      rw [if_pos (by rfl)]
      go_simp
      have key := hK _ _ hs (grown_refl _ _) (hG.step 8)
      simp [setX, h7, hb] at key
      exact key
    · simp at ho
      subst ho
      have p8 : f 8 = true := hp { on := 8, ground := .data } (by simp) rfl
      have q8 := hQ 8 (by omega) p8
      obtain ⟨b, jj, s, hx, _, _, hc, hs, ht⟩ := q8
      rw [if_pos (by rfl)]
      go_simp
      have key := hK _ _ ⟨s, rfl, hs, ht⟩ (grown_refl _ _) (hG.step 9)
      simp [setX, hx] at key
      exact key
    · simp at ho
      subst ho
      have p4 : f 4 = true := hp { on := 4, ground := .data } (by simp) rfl
      have q4 := hQ 4 (by omega) p4
      have p9 : f 9 = true := hp { on := 9, ground := .data } (by simp) rfl
      have q9 := hQ 9 (by omega) p9
      obtain ⟨z9, h9, l9, m9⟩ := q9
      obtain ⟨b, hb, hs⟩ := IntLit.at q4 (z := z9) (by omega) (by omega)
      have hiz : (z9 : Int) < 4 := by omega
      have hi0 : (0 : Int) ≤ z9 := by omega
      rw [if_pos (by rfl)]
      go_simp
      have key := hK _ _ hs (grown_refl _ _) (hG.step 10)
      simp [setX, h9, hb] at key
      exact key
    · simp at ho
      subst ho
      have p10 : f 10 = true := hp { on := 10, ground := .data } (by simp) rfl
      have q10 := hQ 10 (by omega) p10
      obtain ⟨b, jj, s, hx, _, _, hc, hs, ht⟩ := q10
      rw [if_pos (by rfl)]
      go_simp
      have key := hK _ _ ⟨s, rfl, hs, ht⟩ (grown_refl _ _) (hG.step 11)
      simp [setX, hx] at key
      exact key
    · simp at ho
      subst ho
      rw [if_pos (by rfl)]
      go_simp
      have key := hK _ _ rfl (grown_refl _ _) (hG.step 12)
      simp [setX] at key
      exact key
    · simp at ho
      subst ho
      rw [if_pos (by rfl)]
      go_simp
      have key := hK _ _ rfl (grown_refl _ _) (hG.step 13)
      simp [setX] at key
      exact key
    · simp at ho
      subst ho
      have p12 : f 12 = true := hp { on := 12, ground := .data } (by simp) rfl
      have q12 := hQ 12 (by omega) p12
      have q12 : x 12 = .pointer (some ⟨w.heap.size, 0, none⟩) := q12
      have p13 : f 13 = true := hp { on := 13, ground := .data } (by simp) rfl
      have q13 := hQ 13 (by omega) p13
      have q13 : x 13 = .int .i64 mm := q13
      rw [if_pos (by rfl)]
      go_simp
      refine (belo_draw w _ w.heap.size (2 + costF [(2, 1), (7, 1), (14, 2)] f) mm hG.rd' (by omega) (by omega) (by omega)).mono ?_
      rintro e w' ⟨v, rfl, v0, v1, hr', hg'⟩
      have key := hK _ _ ⟨v, rfl, v0, v1⟩ hg' (hG.call (i := 14) (c := 2) (by simp) hf hr' hg')
      simp [setX, q12, q13] at key
      exact key
    · simp at ho
      subst ho
      have p0 : f 0 = true := hp { on := 0, ground := .data } (by simp) rfl
      have q0 := hQ 0 (by omega) p0
      have q0 : x 0 = .int .i64 mm := q0
      rw [if_pos (by rfl)]
      go_simp
      have key := hK _ _ rfl (grown_refl _ _) (hG.step 15)
      simp [setX, q0] at key
      exact key
    · simp at ho
      subst ho
      have p11 : f 11 = true := hp { on := 11, ground := .data } (by simp) rfl
      have q11 := hQ 11 (by omega) p11
      obtain ⟨z11, h11, l11, m11⟩ := q11
      rw [if_pos (by rfl)]
      go_simp
      have key := hK _ _ ⟨z11, rfl, l11, m11⟩ (grown_refl _ _) (hG.step 16)
      simp [setX, h11] at key
      exact key
    · simp at ho
      subst ho
      have p14 : f 14 = true := hp { on := 14, ground := .data } (by simp) rfl
      have q14 := hQ 14 (by omega) p14
      obtain ⟨z14, h14, l14, m14⟩ := q14
      rw [if_pos (by rfl)]
      go_simp
      have key := hK _ _ ⟨z14, rfl, l14, m14⟩ (grown_refl _ _) (hG.step 17)
      simp [setX, h14] at key
      exact key
  · intro x w9 hr9 hg9 hQ
    subst hFr
    have h15 : x 15 = .int .i64 mm := hQ 15 (by omega)
    obtain ⟨z16, h16, l16, m16⟩ : IntIn 2 1001 (x 16) := hQ 16 (by omega)
    obtain ⟨z17, h17, l17, m17⟩ : IntIn 0 2000002 (x 17) := hQ 17 (by omega)
    clear hQ
    go_wp2
    go_ret3
    exact ⟨mm, z16, z17, by simp [h15, h16, h17], hr9.bel⟩
theorem below_grown {w w' : World} (h : Below w.heap.size w w') (row : Option Nat) : w.grownBy w' row := ⟨h.os, h.tape, h.output, h.size, fun k hk _ => h.block k hk⟩
theorem sgX_rng (k : Ky) (s : ByteArray) (hs : s.size ≤ 81) : (sgX k s).1.text.size ≤ 81 ∧ 0 ≤ (sgX k s).1.sig ∧ (sgX k s).1.sig ≤ 994009 := by
  rcases q : sgX k s with ⟨x, ok⟩
  cases ok with
  | true =>
    obtain ⟨h1, h2, _, _, _, _, h3, h4⟩ := sgX_sig q
    exact ⟨by show x.text.size ≤ 81; omega, h3, h4⟩
  | false =>
    have := sgX_no q
    subst this
    exact ⟨by decide, by decide, by decide⟩
/-- a signature that was drawn, and the reader -/
def DrewSg (W w : World) (g m : Nat) (e : Ending) (w' : World) : Prop := ∃ y : Sg, e = .returned (aggSg y) ∧ y.text.size ≤ 100 ∧ Rd W w' g m ∧ w.grownBy w' (some g)
/-- what the operations of the region yield -/
def QSgC (B g : Nat) (b3 : Nat) (sg : Int) (j : Nat) (v : Value) (w : World) : Prop :=
  match j with
  | 0 => v = .pointer (some ⟨b3, 3, none⟩)
  | 1 => v = .int .i64 sg
  | 2 => IntLit B g 3 (-1) 100000000 v w
  | 3 => v = .pointer (some ⟨g, 0, none⟩)
  | 4 => IntIn 0 2 v
  | 5 => IntAt2 g (-1) 100000000 v w
  | 6 => IntIn (-1) 100000000 v
  | 7 => IntIn (-2) 100994009 v
  | 8 => v = .pointer (some ⟨b3, 3, none⟩)
  | _ => False
theorem QSgC_mono {B g : Nat} {b3 : Nat} {sg : Int} (j : Nat) (v : Value) (w w' : World) (_ : j < 9) (h : QSgC B g b3 sg j v w) (hg : w.grownBy w' (some g)) : QSgC B g b3 sg j v w' := by
  match j, h with
  | 0, h => exact h
  | 1, h => exact h
  | 2, h => exact IntLit.mono h hg
  | 3, h => exact h
  | 4, h => exact h
  | 5, h => exact IntAt2.mono h hg
  | 6, h => exact h
  | 7, h => exact h
  | 8, h => exact h
/-- what the operations of the region yield -/
def QSgD (B g : Nat) (j : Nat) (v : Value) (w : World) : Prop :=
  match j with
  | 0 => IntLit B g 4 0 1000001 v w
  | 1 => v = .pointer (some ⟨g, 0, none⟩)
  | 2 => IntIn 0 3 v
  | 3 => IntAt2 g 0 1000001 v w
  | 4 => IntIn 0 1000001 v
  | _ => False
theorem QSgD_mono {B g : Nat} (j : Nat) (v : Value) (w w' : World) (_ : j < 5) (h : QSgD B g j v w) (hg : w.grownBy w' (some g)) : QSgD B g j v w' := by
  match j, h with
  | 0, h => exact IntLit.mono h hg
  | 1, h => exact h
  | 2, h => exact h
  | 3, h => exact IntAt2.mono h hg
  | 4, h => exact h
def DrawnSg (w : World) (e : Ending) (w' : World) : Prop := ∃ y : Sg, e = .returned (aggSg y) ∧ y.text.size ≤ 100 ∧ Below w.heap.size w w'
def DrawnKyS (w : World) (e : Ending) (w' : World) : Prop := ∃ (y : Ky) (s : ByteArray), e = .returned (.tuple #[aggKy y, .string s]) ∧ s.size ≤ 81 ∧ Below w.heap.size w w'
/-- what the operations of the region yield -/
def QSb (g : Nat) (one two exp : Int) (j : Nat) (v : Value) : Prop :=
  match j with
  | 0 => v = .agg #[.int .i64 one, .int .i64 two, .int .i64 exp]
  | 1 => v = .pointer (some ⟨g, 0, none⟩)
  | 2 => StrIs 81 v
  | 3 => ∃ (y : Sg) (ok : Bool), v = .tuple #[aggSg y, .bool ok] ∧ y.text.size ≤ 100
  | 4 => ∃ (y : Sg) (ok : Bool), v = .tuple #[aggSg y, .bool ok] ∧ y.text.size ≤ 100
  | 5 => ∃ y : Sg, v = aggSg y ∧ y.text.size ≤ 100
  | 6 => ∃ ok : Bool, v = .bool ok
  | 9 => ∃ ok : Bool, v = .bool ok
  | _ => False
def rowOf : Value → Array Value
  | .agg cs => cs
  | _ => #[]
def DrawnSgK (w : World) (e : Ending) (w' : World) : Prop := ∃ (y : Sg) (k : Ky), e = .returned (.tuple #[aggSg y, aggKy k]) ∧ y.text.size ≤ 100 ∧ Below w.heap.size w w'
end Go.Proofs.Ythjjagfghbljpaa
