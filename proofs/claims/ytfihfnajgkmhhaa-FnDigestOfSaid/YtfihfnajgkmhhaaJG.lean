/-
  The verifier's own text: DMod DMod2 DDg DDg2 DKy DKy2 DKy3 DSg DSg2 DSg3.
-/
import Derived.Test.YtfihfnajgkmhhaaRows
import Derived.Test.YtfihfnajgkmhhaaJB
import Derived.Test.YtfihfnajgkmhhaaGh
import Derived.Test.YtfihfnajgkmhhaaGb
import Derived.IntWalk
import Derived.Deep.DeepCutAuto
import Derived.Test.YtfihfnajgkmhhaaJH
import Derived.Test.YtfihfnajgkmhhaaGs
import Derived.Test.YtfihfnajgkmhhaaHE
import Derived.Test.YtfihfnajgkmhhaaHA
import Derived.Test.YtfihfnajgkmhhaaGn
import Derived.Test.YtfihfnajgkmhhaaJC
import Derived.Test.YtfihfnajgkmhhaaHB
import Derived.WalkKit
import Derived.ProofKit
import Derived.Below
import Derived.Lib.Hide
import Derived.Outline
import Derived.BigQuiet
import Derived.Deep.QuietTactic
import Derived.Deep.Draws
import Derived.Laws.OwnMore
import Derived.Laws.Rows
import Derived.WalkSpells
import Derived.Deep.RegionWith
namespace Go.Proofs.Ytfihfnajgkmhhaa
open Go.RowKit
set_option linter.unusedVariables false
theorem mul_nn {x y b d : Int} (h0 : 0 ≤ x) (h1 : x ≤ b) (h2 : 0 ≤ y) (h3 : y ≤ d) : 0 ≤ x * y ∧ x * y ≤ b * d :=
  ⟨Int.mul_nonneg h0 h2, Int.le_trans (Int.mul_le_mul_of_nonneg_right h1 h2) (Int.mul_le_mul_of_nonneg_left h3 (by omega))⟩
theorem mod_rng {x y : Int} (h0 : 0 ≤ x) (h1 : 0 < y) : 0 ≤ x % y ∧ x % y ≤ y - 1 ∧ x % y ≤ x := by
  have a := Int.emod_nonneg x (b := y) (by omega)
  have b := Int.emod_lt_of_pos x (b := y) h1
  refine ⟨a, by omega, ?_⟩
  have c : x / y * y + x % y = x := Int.ediv_mul_add_emod x y
  have d := Int.mul_nonneg (Int.ediv_nonneg h0 (Int.le_of_lt h1)) (Int.le_of_lt h1)
  omega
def DrewIn (lo hi : Int) (W w : World) (g m : Nat) (e : Ending) (w' : World) : Prop := ∃ v : Int, e = .returned (.int .i64 v) ∧ lo ≤ v ∧ v ≤ hi ∧ Rd W w' g m ∧ w.grownBy w' (some g)
/-- what the operations of the region yield -/
def QModu (B g : Nat) (j : Nat) (v : Value) (w : World) : Prop :=
  match j with
  | 0 => v = .pointer (some ⟨g, 0, none⟩)
  | 1 => IntIn 0 59 v
  | 2 => IntIn 2 61 v
  | 3 => IntLit B g 7 0 1000001 v w
  | 4 => IntLit B g 10 0 6 v w
  | 5 => v = .pointer (some ⟨g, 0, none⟩)
  | 6 => IntIn 0 9 v
  | 7 => IntAt2 g 0 6 v w
  | 8 => IntIn 0 6 v
  | 9 => IntAt2 g 0 1000001 v w
  | 10 => IntIn 0 1000001 v
  | 11 => IntIn 0 1000001 v
  | _ => False
theorem QModu_mono {B g : Nat} (j : Nat) (v : Value) (w w' : World) (_ : j < 12) (h : QModu B g j v w) (hg : w.grownBy w' (some g)) : QModu B g j v w' := by
  match j, h with
  | 0, h => exact h
  | 1, h => exact h
  | 2, h => exact h
  | 3, h => exact IntLit.mono h hg
  | 4, h => exact IntLit.mono h hg
  | 5, h => exact h
  | 6, h => exact h
  | 7, h => exact IntAt2.mono h hg
  | 8, h => exact h
  | 9, h => exact IntAt2.mono h hg
  | 10, h => exact h
  | 11, h => exact h
/-- what the operations of the region yield -/
def QBelo (B g : Nat) (n : Int) (j : Nat) (v : Value) (w : World) : Prop :=
  match j with
  | 0 => v = .pointer (some ⟨g, 0, none⟩)
  | 1 => IntIn 0 255 v
  | 2 => IntIn 0 996285 v
  | 3 => v = .int .i64 n
  | 4 => IntIn 1 1000001 v
  | 5 => IntIn 0 996285 v
  | 6 => v = .pointer (some ⟨g, 0, none⟩)
  | 7 => IntIn 0 13 v
  | 8 => IntIn 0 1 v
  | 9 => v = .int .i64 n
  | 10 => IntIn 0 1000001 v
  | 11 => IntIn 0 1996286 v
  | 12 => IntIn 0 1996286 v
  | _ => False
theorem QBelo_mono {B g : Nat} {n : Int} (j : Nat) (v : Value) (w w' : World) (_ : j < 13) (h : QBelo B g n j v w) (hg : w.grownBy w' (some g)) : QBelo B g n j v w' := by
  match j, h with
  | 0, h => exact h
  | 1, h => exact h
  | 2, h => exact h
  | 3, h => exact h
  | 4, h => exact h
  | 5, h => exact h
  | 6, h => exact h
  | 7, h => exact h
  | 8, h => exact h
  | 9, h => exact h
  | 10, h => exact h
  | 11, h => exact h
  | 12, h => exact h
/-- what the operations of the region yield -/
def QPowD (B g : Nat) (mm : Int) (aa : Int) (j : Nat) (v : Value) (w : World) : Prop :=
  match j with
  | 0 => v = .int .i64 aa
  | 1 => v = .pointer (some ⟨g, 0, none⟩)
  | 2 => IntIn 0 19 v
  | 3 => v = .pointer (some ⟨g, 0, none⟩)
  | 4 => IntIn 0 255 v
  | 5 => IntIn 0 765000 v
  | 6 => IntLit B g 4 (-1) 1000000000 v w
  | 7 => IntLit B g 7 0 3 v w
  | 8 => v = .pointer (some ⟨g, 0, none⟩)
  | 9 => IntIn 0 6 v
  | 10 => IntAt2 g 0 3 v w
  | 11 => IntIn 0 3 v
  | 12 => IntAt2 g (-1) 1000000000 v w
  | 13 => IntIn (-1) 1000000000 v
  | 14 => v = .int .i64 mm
  | 15 => v = .int .i64 aa
  | 16 => IntIn (-1) 1000000000 v
  | 17 => v = .int .i64 mm
  | _ => False
theorem QPowD_mono {B g : Nat} {mm : Int} {aa : Int} (j : Nat) (v : Value) (w w' : World) (_ : j < 18) (h : QPowD B g mm aa j v w) (hg : w.grownBy w' (some g)) : QPowD B g mm aa j v w' := by
  match j, h with
  | 0, h => exact h
  | 1, h => exact h
  | 2, h => exact h
  | 3, h => exact h
  | 4, h => exact h
  | 5, h => exact h
  | 6, h => exact IntLit.mono h hg
  | 7, h => exact IntLit.mono h hg
  | 8, h => exact h
  | 9, h => exact h
  | 10, h => exact IntAt2.mono h hg
  | 11, h => exact h
  | 12, h => exact IntAt2.mono h hg
  | 13, h => exact h
  | 14, h => exact h
  | 15, h => exact h
  | 16, h => exact h
  | 17, h => exact h
/-- what the operations of the region yield -/
def QPriD (B g : Nat) (j : Nat) (v : Value) (w : World) : Prop :=
  match j with
  | 0 => v = .pointer (some ⟨g, 0, none⟩)
  | 1 => IntIn 0 255 v
  | 2 => v = .pointer (some ⟨g, 0, none⟩)
  | 3 => IntIn 0 255 v
  | 4 => IntIn 0 1020 v
  | 5 => IntIn 1 1021 v
  | 6 => IntLit B g 6 (-7) 1021 v w
  | 7 => IntLit B g 9 0 5 v w
  | 8 => v = .pointer (some ⟨g, 0, none⟩)
  | 9 => IntIn 0 8 v
  | 10 => IntAt2 g 0 5 v w
  | 11 => IntIn 0 5 v
  | 12 => IntAt2 g (-7) 1021 v w
  | 13 => IntIn (-7) 1021 v
  | 14 => IntIn (-7) 1021 v
  | _ => False
theorem QPriD_mono {B g : Nat} (j : Nat) (v : Value) (w w' : World) (_ : j < 15) (h : QPriD B g j v w) (hg : w.grownBy w' (some g)) : QPriD B g j v w' := by
  match j, h with
  | 0, h => exact h
  | 1, h => exact h
  | 2, h => exact h
  | 3, h => exact h
  | 4, h => exact h
  | 5, h => exact h
  | 6, h => exact IntLit.mono h hg
  | 7, h => exact IntLit.mono h hg
  | 8, h => exact h
  | 9, h => exact h
  | 10, h => exact IntAt2.mono h hg
  | 11, h => exact h
  | 12, h => exact IntAt2.mono h hg
  | 13, h => exact h
  | 14, h => exact h
theorem drawDgO_any (w : World) (A : Option Addr) (n c : Nat) (h : CodeArg w A n c) : Calls Try.prog 9 #[.slice A n c] w (DrawnStr w 81) := by
  go_enter Try.func9, Try.ntmps9
  go_wp2_with (first | (go_at_call 22; refine (open_any w A n c h).mono ?_; rintro e w2 ⟨rfl, hr2⟩) | (go_at_call 21; refine (text_draw w _ w.heap.size 0 6 hr2 (by omega) (by omega) (by omega)).mono ?_; rintro e w3 ⟨s, hs, rfl, hr3, hg3⟩))
  go_ret
  exact ⟨s, hs, rfl, hr3.bel⟩
/-- what the operations of the region yield -/
def QDgMr (B g : Nat) (j : Nat) (v : Value) (w : World) : Prop :=
  match j with
  | 0 => v = .pointer (some ⟨g, 0, none⟩)
  | 1 => IntIn 0 255 v
  | 2 => IntIn 0 994500 v
  | 3 => IntLit B g 4 (-1) 999983 v w
  | 4 => IntLit B g 7 0 3 v w
  | 5 => v = .pointer (some ⟨g, 0, none⟩)
  | 6 => IntIn 0 6 v
  | 7 => IntAt2 g 0 3 v w
  | 8 => IntIn 0 3 v
  | 9 => IntAt2 g (-1) 999983 v w
  | 10 => IntIn (-1) 999983 v
  | 11 => v = .pointer (some ⟨g, 0, none⟩)
  | 12 => IntIn 0 98 v
  | 13 => IntIn 30 128 v
  | 14 => IntIn (-1) 999983 v
  | 15 => IntIn 30 128 v
  | _ => False
theorem QDgMr_mono {B g : Nat} (j : Nat) (v : Value) (w w' : World) (_ : j < 16) (h : QDgMr B g j v w) (hg : w.grownBy w' (some g)) : QDgMr B g j v w' := by
  match j, h with
  | 0, h => exact h
  | 1, h => exact h
  | 2, h => exact h
  | 3, h => exact IntLit.mono h hg
  | 4, h => exact IntLit.mono h hg
  | 5, h => exact h
  | 6, h => exact h
  | 7, h => exact IntAt2.mono h hg
  | 8, h => exact h
  | 9, h => exact IntAt2.mono h hg
  | 10, h => exact h
  | 11, h => exact h
  | 12, h => exact h
  | 13, h => exact h
  | 14, h => exact h
  | 15, h => exact h
set_option maxRecDepth 100000 in
set_option maxHeartbeats 2000000 in
theorem drawDgM_any (w : World) (A : Option Addr) (n c : Nat) (h : CodeArg w A n c) : Calls Try.prog 14 #[.slice A n c] w (DrawnInt2 w) := by
  go_enter Try.func14, Try.ntmps14
  go_upto_region 2 with (go_at_call 22; refine (open_any w A n c h).mono ?_; rintro e w2 ⟨rfl, hr2⟩)
  obtain ⟨Fr, hFr⟩ : ∃ Fr : (Nat → Value) → Act, Fr = (fun x => { tmps := #[.slice A n c, undef, x 14, x 15, .pointer (some ⟨w.heap.size, 0, none⟩), .slice A n c, .pointer (some ⟨w.heap.size, 0, none⟩), x 0, x 1, x 2, x 3, x 4, x 5, x 6, x 7, x 8, x 9, x 10, x 11, x 12, x 13], defers := [] }) := ⟨_, rfl⟩
  refine pick_region (n := 16) (by kernel_rfl) rfl w w.heap.size (0) [(1, 1), (6, 1), (12, 1)] Fr
    (QDgMr w2.heap.size w.heap.size) (by kernel_rfl) (fun j => if j = 14 then .int .i64 0 else if j = 15 then .int .i64 0 else undef) (by rw [hFr]; rfl) hr2 QDgMr_mono ?_ ?_
  · intro i o f x wx hi ho hf hp hG hQ K hK
    subst hFr
    have hB : w2.heap.size ≤ wx.heap.size := hG.gr.size
    have hcost := cost_all [(1, 1), (6, 1), (12, 1)] f
    have hca : costAll [(1, 1), (6, 1), (12, 1)] = 3 := rfl
    obtain rfl | rfl | rfl | rfl | rfl | rfl | rfl | rfl | rfl | rfl | rfl | rfl | rfl | rfl | rfl | rfl : i = 0 ∨ i = 1 ∨ i = 2 ∨ i = 3 ∨ i = 4 ∨ i = 5 ∨ i = 6 ∨ i = 7 ∨ i = 8 ∨ i = 9 ∨ i = 10 ∨ i = 11 ∨ i = 12 ∨ i = 13 ∨ i = 14 ∨ i = 15 := by omega
    · simp at ho
      subst ho
      rw [if_pos (by rfl)]
      go_simp
      have key := hK _ _ rfl (grown_refl _ _) (hG.step 0)
      simp [setX] at key
      exact key
    · simp at ho
      subst ho
      have p0 : f 0 = true := hp { on := 0, ground := .data } (by simp) rfl
      have q0 := hQ 0 (by omega) p0
      have q0 : x 0 = .pointer (some ⟨w.heap.size, 0, none⟩) := q0
      rw [if_pos (by rfl)]
      go_simp
      refine (pick_any w _ w.heap.size (0 + costF [(1, 1), (6, 1), (12, 1)] f) 256 hG.rd' (by omega)).mono ?_
      rintro e w' ⟨v, v0, v1, _, rfl, hr', hg'⟩
      have key := hK _ _ ⟨v, rfl, v0, by have := v1 (by omega); omega⟩ hg' (hG.call (i := 1) (c := 1) (by simp) hf hr' hg')
      simp [setX, q0] at key
      exact key
    · simp at ho
      subst ho
      have p1 : f 1 = true := hp { on := 1, ground := .data } (by simp) rfl
      have q1 := hQ 1 (by omega) p1
      obtain ⟨z1, h1, l1, m1⟩ := q1
      have iw := IntWalk.i64_in (z1 * 3900) (by omega)
      rw [if_pos (by rfl)]
      go_simp
      have key := hK _ _ ⟨(z1 * 3900), rfl, by omega, by omega⟩ (grown_refl _ _) (hG.step 2)
      simp [setX, h1] at key
      exact key
    · simp at ho
      subst ho
      have p2 : f 2 = true := hp { on := 2, ground := .data } (by simp) rfl
      have q2 := hQ 2 (by omega) p2
      obtain ⟨z2, h2, l2, m2⟩ := q2
      rw [if_pos (by rfl)]
      go_simp
      have key := hK (.slice (some ⟨wx.heap.size, 0, none⟩) 4 4) (wx.alloc (.cells #[.int .i64 z2, .int .i64 999983, .int .i64 (-1), .int .i64 999982] 3)) (IntLit.new rfl (intRow_cons (by omega) (by omega) (intRow_cons (by omega) (by omega) (intRow_cons (by omega) (by omega) (intRow_cons (by omega) (by omega) (intRow_nil))))) hB hG.lt) (grown_alloc _ _ _) (hG.alloc _ 3)
      simp [setX, h2] at key
      exact key
    · simp at ho
      subst ho
      rw [if_pos (by rfl)]
      go_simp
      have key := hK (.slice (some ⟨wx.heap.size, 0, none⟩) 7 7) (wx.alloc (.cells #[.int .i64 0, .int .i64 0, .int .i64 0, .int .i64 0, .int .i64 1, .int .i64 2, .int .i64 3] 3)) (IntLit.new rfl (intRow_cons (by omega) (by omega) (intRow_cons (by omega) (by omega) (intRow_cons (by omega) (by omega) (intRow_cons (by omega) (by omega) (intRow_cons (by omega) (by omega) (intRow_cons (by omega) (by omega) (intRow_cons (by omega) (by omega) (intRow_nil)))))))) hB hG.lt) (grown_alloc _ _ _) (hG.alloc _ 4)
      simp [setX] at key
      exact key
    · simp at ho
      subst ho
      rw [if_pos (by rfl)]
      go_simp
      have key := hK _ _ rfl (grown_refl _ _) (hG.step 5)
      simp [setX] at key
      exact key
    · simp at ho
      subst ho
      have p5 : f 5 = true := hp { on := 5, ground := .data } (by simp) rfl
      have q5 := hQ 5 (by omega) p5
      have q5 : x 5 = .pointer (some ⟨w.heap.size, 0, none⟩) := q5
      rw [if_pos (by rfl)]
      go_simp
      refine (pick_any w _ w.heap.size (0 + costF [(1, 1), (6, 1), (12, 1)] f) 7 hG.rd' (by omega)).mono ?_
      rintro e w' ⟨v, v0, v1, _, rfl, hr', hg'⟩
      have key := hK _ _ ⟨v, rfl, v0, by have := v1 (by omega); omega⟩ hg' (hG.call (i := 6) (c := 1) (by simp) hf hr' hg')
      simp [setX, q5] at key
      exact key
    · simp at ho
      subst ho
      have p4 : f 4 = true := hp { on := 4, ground := .data } (by simp) rfl
      have q4 := hQ 4 (by omega) p4
      have p6 : f 6 = true := hp { on := 6, ground := .data } (by simp) rfl
      have q6 := hQ 6 (by omega) p6
      obtain ⟨z6, h6, l6, m6⟩ := q6
      obtain ⟨b, hb, hs⟩ := IntLit.at q4 (z := z6) (by omega) (by omega)
      have hiz : (z6 : Int) < 7 := by omega
      have hi0 : (0 : Int) ≤ z6 := by omega
      rw [if_pos (by rfl)]
      go_simp
      have key := hK _ _ hs (grown_refl _ _) (hG.step 7)
      simp [setX, h6, hb] at key
      exact key
    · simp at ho
      subst ho
      have p7 : f 7 = true := hp { on := 7, ground := .data } (by simp) rfl
      have q7 := hQ 7 (by omega) p7
      obtain ⟨b, jj, s, hx, _, _, hc, hs, ht⟩ := q7
      rw [if_pos (by rfl)]
      go_simp
      have key := hK _ _ ⟨s, rfl, hs, ht⟩ (grown_refl _ _) (hG.step 8)
      simp [setX, hx] at key
      exact key
    · simp at ho
      subst ho
      have p3 : f 3 = true := hp { on := 3, ground := .data } (by simp) rfl
      have q3 := hQ 3 (by omega) p3
      have p8 : f 8 = true := hp { on := 8, ground := .data } (by simp) rfl
      have q8 := hQ 8 (by omega) p8
      obtain ⟨z8, h8, l8, m8⟩ := q8
      obtain ⟨b, hb, hs⟩ := IntLit.at q3 (z := z8) (by omega) (by omega)
      have hiz : (z8 : Int) < 4 := by omega
      have hi0 : (0 : Int) ≤ z8 := by omega
      rw [if_pos (by rfl)]
      go_simp
      have key := hK _ _ hs (grown_refl _ _) (hG.step 9)
      simp [setX, h8, hb] at key
      exact key
    · simp at ho
      subst ho
      have p9 : f 9 = true := hp { on := 9, ground := .data } (by simp) rfl
      have q9 := hQ 9 (by omega) p9
      obtain ⟨b, jj, s, hx, _, _, hc, hs, ht⟩ := q9
      rw [if_pos (by rfl)]
      go_simp
      have key := hK _ _ ⟨s, rfl, hs, ht⟩ (grown_refl _ _) (hG.step 10)
      simp [setX, hx] at key
      exact key
    · simp at ho
      subst ho
      rw [if_pos (by rfl)]
      go_simp
      have key := hK _ _ rfl (grown_refl _ _) (hG.step 11)
      simp [setX] at key
      exact key
    · simp at ho
      subst ho
      have p11 : f 11 = true := hp { on := 11, ground := .data } (by simp) rfl
      have q11 := hQ 11 (by omega) p11
      have q11 : x 11 = .pointer (some ⟨w.heap.size, 0, none⟩) := q11
      rw [if_pos (by rfl)]
      go_simp
      refine (pick_any w _ w.heap.size (0 + costF [(1, 1), (6, 1), (12, 1)] f) 99 hG.rd' (by omega)).mono ?_
      rintro e w' ⟨v, v0, v1, _, rfl, hr', hg'⟩
      have key := hK _ _ ⟨v, rfl, v0, by have := v1 (by omega); omega⟩ hg' (hG.call (i := 12) (c := 1) (by simp) hf hr' hg')
      simp [setX, q11] at key
      exact key
    · simp at ho
      subst ho
      have p12 : f 12 = true := hp { on := 12, ground := .data } (by simp) rfl
      have q12 := hQ 12 (by omega) p12
      obtain ⟨z12, h12, l12, m12⟩ := q12
      have iw := IntWalk.i64_in (30 + z12) (by omega)
      rw [if_pos (by rfl)]
      go_simp
      have key := hK _ _ ⟨(30 + z12), rfl, by omega, by omega⟩ (grown_refl _ _) (hG.step 13)
      simp [setX, h12] at key
      exact key
    · simp at ho
      subst ho
      have p10 : f 10 = true := hp { on := 10, ground := .data } (by simp) rfl
      have q10 := hQ 10 (by omega) p10
      obtain ⟨z10, h10, l10, m10⟩ := q10
      rw [if_pos (by rfl)]
      go_simp
      have key := hK _ _ ⟨z10, rfl, l10, m10⟩ (grown_refl _ _) (hG.step 14)
      simp [setX, h10] at key
      exact key
    · simp at ho
      subst ho
      have p13 : f 13 = true := hp { on := 13, ground := .data } (by simp) rfl
      have q13 := hQ 13 (by omega) p13
      obtain ⟨z13, h13, l13, m13⟩ := q13
      rw [if_pos (by rfl)]
      go_simp
      have key := hK _ _ ⟨z13, rfl, l13, m13⟩ (grown_refl _ _) (hG.step 15)
      simp [setX, h13] at key
      exact key
  · intro x w9 hr9 hg9 hQ
    subst hFr
    obtain ⟨z14, h14, l14, m14⟩ : IntIn (-1) 999983 (x 14) := hQ 14 (by omega)
    obtain ⟨z15, h15, l15, m15⟩ : IntIn 30 128 (x 15) := hQ 15 (by omega)
    clear hQ
    go_wp2
    go_ret2
    exact ⟨z14, z15, by simp [h14, h15], hr9.bel⟩
/-- a list of ints that was drawn -/
def DrawnZs (N : Nat) (w : World) (e : Ending) (w' : World) : Prop := ∃ (v : Value) (L : List Int), e = .returned v ∧ L.length ≤ N ∧ OwnZ w' w.heap.size v L ∧ Below w.heap.size w w'
/-- what the operations of the region yield -/
def QDgLi (B g : Nat) (sv : Value) (j : Nat) (v : Value) (w : World) : Prop :=
  match j with
  | 0 => v = sv
  | 1 => v = .pointer (some ⟨g, 0, none⟩)
  | 2 => IntIn 0 255 v
  | 3 => IntLit B g 3 (-1) 1000000000 v w
  | 4 => IntLit B g 15 0 2 v w
  | 5 => v = .pointer (some ⟨g, 0, none⟩)
  | 6 => IntIn 0 14 v
  | 7 => IntAt2 g 0 2 v w
  | 8 => IntIn 0 2 v
  | 9 => IntAt2 g (-1) 1000000000 v w
  | 10 => IntIn (-1) 1000000000 v
  | _ => False
theorem QDgLi_mono {B g : Nat} {sv : Value} (j : Nat) (v : Value) (w w' : World) (_ : j < 11) (h : QDgLi B g sv j v w) (hg : w.grownBy w' (some g)) : QDgLi B g sv j v w' := by
  match j, h with
  | 0, h => exact h
  | 1, h => exact h
  | 2, h => exact h
  | 3, h => exact IntLit.mono h hg
  | 4, h => exact IntLit.mono h hg
  | 5, h => exact h
  | 6, h => exact h
  | 7, h => exact IntAt2.mono h hg
  | 8, h => exact h
  | 9, h => exact IntAt2.mono h hg
  | 10, h => exact h
set_option maxRecDepth 100000 in
set_option maxHeartbeats 4000000 in
theorem drawDgL_any (w : World) (A : Option Addr) (n c : Nat) (h : CodeArg w A n c) : Calls Try.prog 16 #[.slice A n c] w (DrawnZs 21 w) := by
  go_enter Try.func16, Try.ntmps16
  go_wp2_with (first | (go_at_call 22; refine (open_any w A n c h).mono ?_; rintro e w2 ⟨rfl, hr2⟩) | fail)
  have hlt2 := hr2.lt
  have hown0 := Lib.hid (ownZ_empty w2 (w.heap.size + 1) (by omega))
  refine (pick_any w _ w.heap.size 0 8 (hr2.alloc _) (by omega)).mono ?_
  rintro e w3 ⟨v3, a3, b3, _, rfl, hr3, hg3⟩
  have b3 := b3 (by omega)
  have hown3 := Lib.hid (OwnG.row hown0.out hg3 (fun k e => by cases e; omega))
  obtain ⟨j, rfl⟩ : ∃ j : Nat, v3 = j := ⟨v3.toNat, by omega⟩
  have hj : j ≤ 7 := by omega
  have hr3' := Lib.hid (hr3.more (m' := 1 + 2 * (7 - j)) (by omega))
  clear a3 b3 hg3 hr3 hown0 hr2 hlt2
  go_wp2
  go_loopw [4, 5] (fun x i wr => ∃ (k : Nat) (L : List Int) (y : Value), k ≤ 7 ∧ i = .int .i64 k ∧ y = x ∧ L.length + k ≤ 7 ∧ Hid (OwnZ wr (w.heap.size + 1) y L) ∧ Hid (Rd w wr w.heap.size (1 + 2 * (7 - k)))) (fun _ i _ => (intOf i).toNat)
  case atStart => exact ⟨j, [], _, hj, rfl, rfl, by simp; omega, hown3, hr3'⟩
  case round =>
    obtain ⟨k, L, sv, hk, rfl, rfl, hl, hown, hr⟩ := hrel
    by_cases hk0 : k = 0
    · subst hk0
      have hr' := hr.out.more (m' := 15) (by omega)
      obtain ⟨A2, c2, hy⟩ := OwnZ.shape hown.out
      subst hy
      clear hr
      go_wp2_with fail
      refine (odd_any w _ w.heap.size 15 24 hr' (by omega) (by omega) (by omega)).mono ?_
      rintro e w6 ⟨b, rfl, hr6, hg6⟩
      have hown6 := Lib.hid (OwnG.row hown.out hg6 (fun k e => by cases e; omega))
      clear hg6 hr' hown
      rcases b with _ | _
      · go_wp2
        go_ret
        exact ⟨_, L, rfl, by omega, OwnG.base hown6.out (by omega), hr6.bel⟩
      · have hb6 := hr6.bel
        go_wp2_with (at_make; refine full_ints rfl _ _ rfl 21 rfl rfl (by omega) ?_; intro w7 hown7 hb7)
        go_ret
        exact ⟨_, List.replicate 21 0, rfl, by simp, OwnG.base hown7 hb6.size, below_trans' hb6 hb7⟩
    · obtain ⟨q, rfl⟩ : ∃ q, k = q + 1 := ⟨k - 1, by omega⟩
      have hr := hr.out
      have hq0 : (0 : Int) < ((q + 1 : Nat) : Int) := by omega
      go_upto_region 6 with fail
      obtain ⟨Fr, hFr⟩ : ∃ Fr : (Nat → Value) → Act, Fr = (fun x => { tmps := #[.slice A n c, undef, .slice none 0 0, .pointer (some ⟨w.heap.size, 0, none⟩), sv, .int .i64 ((q + 1 : Nat) : Int), .slice A n c, .pointer (some ⟨w.heap.size, 0, none⟩), .slice (some ⟨w2.heap.size, 0, none⟩) 0 0, .pointer (some ⟨w.heap.size, 0, none⟩), .int .i64 (j : Int), .int .i64 ((q + 1 : Nat) : Int), .bool true, u13, u14, x 0, x 1, x 2, x 3, x 4, x 5, x 6, x 7, x 8, x 9, x 10, u26, u27, undef, undef, undef, undef], defers := [] }) := ⟨_, rfl⟩
      refine pick_prefix (n := 11) (Nat.le_of_ble_eq_true (by kernel_rfl)) w w.heap.size (1 + 2 * (7 - (q + 1))) [(2, 1), (6, 1)] Fr
        (QDgLi wr.heap.size w.heap.size sv) (by kernel_rfl) (fun j => if j = 0 then u15 else if j = 1 then u16 else if j = 2 then u17 else if j = 3 then u18 else if j = 4 then u19 else if j = 5 then u20 else if j = 6 then u21 else if j = 7 then u22 else if j = 8 then u23 else if j = 9 then u24 else if j = 10 then u25 else undef) (by rw [hFr]; rfl) hr QDgLi_mono ?_ ?_
      · intro i o f x wx hi ho hf hp hG hQ K hK
        subst hFr
        have hB : wr.heap.size ≤ wx.heap.size := hG.gr.size
        have hcost := cost_all [(2, 1), (6, 1)] f
        have hca : costAll [(2, 1), (6, 1)] = 2 := rfl
        obtain rfl | rfl | rfl | rfl | rfl | rfl | rfl | rfl | rfl | rfl | rfl : i = 0 ∨ i = 1 ∨ i = 2 ∨ i = 3 ∨ i = 4 ∨ i = 5 ∨ i = 6 ∨ i = 7 ∨ i = 8 ∨ i = 9 ∨ i = 10 := by omega
        · simp at ho
          subst ho
          rw [if_pos (by rfl)]
          go_simp
          have key := hK _ _ rfl (grown_refl _ _) (hG.step 0)
          simp [setX] at key
          exact key
        · simp at ho
          subst ho
          rw [if_pos (by rfl)]
          go_simp
          have key := hK _ _ rfl (grown_refl _ _) (hG.step 1)
          simp [setX] at key
          exact key
        · simp at ho
          subst ho
          have p1 : f 1 = true := hp { on := 1, ground := .data } (by simp) rfl
          have q1 := hQ 1 (by omega) p1
          have q1 : x 1 = .pointer (some ⟨w.heap.size, 0, none⟩) := q1
          rw [if_pos (by rfl)]
          go_simp
          refine (pick_any w _ w.heap.size (1 + 2 * (7 - (q + 1)) + costF [(2, 1), (6, 1)] f) 256 hG.rd' (by omega)).mono ?_
          rintro e w' ⟨v, v0, v1, _, rfl, hr', hg'⟩
          have key := hK _ _ ⟨v, rfl, v0, by have := v1 (by omega); omega⟩ hg' (hG.call (i := 2) (c := 1) (by simp) hf hr' hg')
          simp [setX, q1] at key
          exact key
        · simp at ho
          subst ho
          have p2 : f 2 = true := hp { on := 2, ground := .data } (by simp) rfl
          have q2 := hQ 2 (by omega) p2
          obtain ⟨z2, h2, l2, m2⟩ := q2
          rw [if_pos (by rfl)]
          go_simp
          have key := hK (.slice (some ⟨wx.heap.size, 0, none⟩) 3 3) (wx.alloc (.cells #[.int .i64 z2, .int .i64 1000000000, .int .i64 (-1)] 3)) (IntLit.new rfl (intRow_cons (by omega) (by omega) (intRow_cons (by omega) (by omega) (intRow_cons (by omega) (by omega) (intRow_nil)))) hB hG.lt) (grown_alloc _ _ _) (hG.alloc _ 3)
          simp [setX, h2] at key
          exact key
        · simp at ho
          subst ho
          rw [if_pos (by rfl)]
          go_simp
          have key := hK (.slice (some ⟨wx.heap.size, 0, none⟩) 15 15) (wx.alloc (.cells #[.int .i64 0, .int .i64 0, .int .i64 0, .int .i64 0, .int .i64 0, .int .i64 0, .int .i64 0, .int .i64 0, .int .i64 0, .int .i64 0, .int .i64 0, .int .i64 0, .int .i64 0, .int .i64 1, .int .i64 2] 3)) (IntLit.new rfl (intRow_cons (by omega) (by omega) (intRow_cons (by omega) (by omega) (intRow_cons (by omega) (by omega) (intRow_cons (by omega) (by omega) (intRow_cons (by omega) (by omega) (intRow_cons (by omega) (by omega) (intRow_cons (by omega) (by omega) (intRow_cons (by omega) (by omega) (intRow_cons (by omega) (by omega) (intRow_cons (by omega) (by omega) (intRow_cons (by omega) (by omega) (intRow_cons (by omega) (by omega) (intRow_cons (by omega) (by omega) (intRow_cons (by omega) (by omega) (intRow_cons (by omega) (by omega) (intRow_nil)))))))))))))))) hB hG.lt) (grown_alloc _ _ _) (hG.alloc _ 4)
          simp [setX] at key
          exact key
        · simp at ho
          subst ho
          rw [if_pos (by rfl)]
          go_simp
          have key := hK _ _ rfl (grown_refl _ _) (hG.step 5)
          simp [setX] at key
          exact key
        · simp at ho
          subst ho
          have p5 : f 5 = true := hp { on := 5, ground := .data } (by simp) rfl
          have q5 := hQ 5 (by omega) p5
          have q5 : x 5 = .pointer (some ⟨w.heap.size, 0, none⟩) := q5
          rw [if_pos (by rfl)]
          go_simp
          refine (pick_any w _ w.heap.size (1 + 2 * (7 - (q + 1)) + costF [(2, 1), (6, 1)] f) 15 hG.rd' (by omega)).mono ?_
          rintro e w' ⟨v, v0, v1, _, rfl, hr', hg'⟩
          have key := hK _ _ ⟨v, rfl, v0, by have := v1 (by omega); omega⟩ hg' (hG.call (i := 6) (c := 1) (by simp) hf hr' hg')
          simp [setX, q5] at key
          exact key
        · simp at ho
          subst ho
          have p4 : f 4 = true := hp { on := 4, ground := .data } (by simp) rfl
          have q4 := hQ 4 (by omega) p4
          have p6 : f 6 = true := hp { on := 6, ground := .data } (by simp) rfl
          have q6 := hQ 6 (by omega) p6
          obtain ⟨z6, h6, l6, m6⟩ := q6
          obtain ⟨b, hb, hs⟩ := IntLit.at q4 (z := z6) (by omega) (by omega)
          have hiz : (z6 : Int) < 15 := by omega
          have hi0 : (0 : Int) ≤ z6 := by omega
          rw [if_pos (by rfl)]
          go_simp
          have key := hK _ _ hs (grown_refl _ _) (hG.step 7)
          simp [setX, h6, hb] at key
          exact key
        · simp at ho
          subst ho
          have p7 : f 7 = true := hp { on := 7, ground := .data } (by simp) rfl
          have q7 := hQ 7 (by omega) p7
          obtain ⟨b, jj, s, hx, _, _, hc, hs, ht⟩ := q7
          rw [if_pos (by rfl)]
          go_simp
          have key := hK _ _ ⟨s, rfl, hs, ht⟩ (grown_refl _ _) (hG.step 8)
          simp [setX, hx] at key
          exact key
        · simp at ho
          subst ho
          have p3 : f 3 = true := hp { on := 3, ground := .data } (by simp) rfl
          have q3 := hQ 3 (by omega) p3
          have p8 : f 8 = true := hp { on := 8, ground := .data } (by simp) rfl
          have q8 := hQ 8 (by omega) p8
          obtain ⟨z8, h8, l8, m8⟩ := q8
          obtain ⟨b, hb, hs⟩ := IntLit.at q3 (z := z8) (by omega) (by omega)
          have hiz : (z8 : Int) < 3 := by omega
          have hi0 : (0 : Int) ≤ z8 := by omega
          rw [if_pos (by rfl)]
          go_simp
          have key := hK _ _ hs (grown_refl _ _) (hG.step 9)
          simp [setX, h8, hb] at key
          exact key
        · simp at ho
          subst ho
          have p9 : f 9 = true := hp { on := 9, ground := .data } (by simp) rfl
          have q9 := hQ 9 (by omega) p9
          obtain ⟨b, jj, s, hx, _, _, hc, hs, ht⟩ := q9
          rw [if_pos (by rfl)]
          go_simp
          have key := hK _ _ ⟨s, rfl, hs, ht⟩ (grown_refl _ _) (hG.step 10)
          simp [setX, hx] at key
          exact key
      · intro x w9 hr9 hg9 hQ
        subst hFr
        have h0 : x 0 = sv := hQ 0 (by omega)
        obtain ⟨z10, h10, l10, m10⟩ : IntIn (-1) 1000000000 (x 10) := hQ 10 (by omega)
        clear hQ
        simp only [List.drop_succ_cons, List.drop_zero]
        have hown9 := Lib.hid (OwnG.row hown.out hg9 (fun k e => by cases e; omega))
        have hlt9 := hr9.lt
        have hll : L.length ≤ 1073741824 := by omega
        rw [h0, h10]
        clear hown hg9
        go_wp2_with (at_builtin; refine app_int rfl (.tmp 15) (.tmp 26) rfl (w.heap.size + 1) _ L z10 rfl hown9.out (by omega) _ rfl rfl hll ?_; intro v8 w8 hown8 hg8; have hr8 := Lib.hid (rd_appG hr9 hown9.out hg8); have hown8 := Lib.hid hown8; clear hg8 hown9 hr9)
        go_roundw
        case rel => exact ⟨q, L ++ [z10], v8, by omega, by go_num, rfl, by simp; omega, hown8, Lib.hid (hr8.out.more (by simp [costAll] <;> omega))⟩
        case measure => simp [intOf]
/-- one that was drawn, and the reader -/
def DrewKy (W w : World) (g m : Nat) (e : Ending) (w' : World) : Prop := ∃ y : Ky, e = .returned (aggKy y) ∧ ShKy y ∧ Rd W w' g m ∧ w.grownBy w' (some g)
/-- what the operations of the region yield -/
def QKy (B g : Nat) (n : Int) (j : Nat) (v : Value) (w : World) : Prop :=
  match j with
  | 0 => ∃ cs : Array Value, cs.size = 4 ∧ IntRow2 (11) (997) cs ∧ LitAt B g 4 cs v w
  | 1 => v = .pointer (some ⟨g, 0, none⟩)
  | 2 => IntUp 4 v
  | 3 => IntAt2 g (11) (997) v w
  | 4 => ∃ z : Int, v = .int .i64 z ∧ 11 ≤ z ∧ z ≤ 997
  | 5 => ∃ cs : Array Value, cs.size = 4 ∧ IntRow2 (13) (991) cs ∧ LitAt B g 4 cs v w
  | 6 => v = .pointer (some ⟨g, 0, none⟩)
  | 7 => IntUp 4 v
  | 8 => IntAt2 g (13) (991) v w
  | 9 => ∃ z : Int, v = .int .i64 z ∧ 13 ≤ z ∧ z ≤ 991
  | 10 => ∃ cs : Array Value, cs.size = 4 ∧ IntRow2 (7) (37) cs ∧ LitAt B g 4 cs v w
  | 11 => v = .pointer (some ⟨g, 0, none⟩)
  | 12 => IntUp 4 v
  | 13 => IntAt2 g (7) (37) v w
  | 14 => ∃ z : Int, v = .int .i64 z ∧ 7 ≤ z ∧ z ≤ 37
  | 15 => ∃ y : Ky, v = aggKy y ∧ ShKy y
  | _ => False
theorem QKy_mono {B g : Nat} {n : Int} (j : Nat) (v : Value) (w w' : World) (_ : j < 16) (h : QKy B g n j v w) (hg : w.grownBy w' (some g)) : QKy B g n j v w' := by
  match j, h with
  | 0, h => obtain ⟨cs, h1, h2, h3⟩ := h; exact ⟨cs, h1, h2, LitAt.mono h3 hg⟩
  | 1, h => exact h
  | 2, h => exact h
  | 3, h => exact IntAt2.mono h hg
  | 4, h => exact h
  | 5, h => obtain ⟨cs, h1, h2, h3⟩ := h; exact ⟨cs, h1, h2, LitAt.mono h3 hg⟩
  | 6, h => exact h
  | 7, h => exact h
  | 8, h => exact IntAt2.mono h hg
  | 9, h => exact h
  | 10, h => obtain ⟨cs, h1, h2, h3⟩ := h; exact ⟨cs, h1, h2, LitAt.mono h3 hg⟩
  | 11, h => exact h
  | 12, h => exact h
  | 13, h => exact IntAt2.mono h hg
  | 14, h => exact h
  | 15, h => exact h
theorem lit_ky (j : Nat) (hj : j < 6) : ∃ y : Ky, ShKy y ∧ (#[.int .i64 0, .int .i64 0, .int .i64 0, .int .i64 61, .int .i64 61, .int .i64 17, .int .i64 61, .int .i64 53, .int .i64 6, .int .i64 60, .int .i64 53, .int .i64 17, .int .i64 7, .int .i64 53, .int .i64 17, .int .i64 61, .int .i64 53, .int .i64 1001] : Array Value)[j * 3]? = some (.int .i64 y.one) ∧ (#[.int .i64 0, .int .i64 0, .int .i64 0, .int .i64 61, .int .i64 61, .int .i64 17, .int .i64 61, .int .i64 53, .int .i64 6, .int .i64 60, .int .i64 53, .int .i64 17, .int .i64 7, .int .i64 53, .int .i64 17, .int .i64 61, .int .i64 53, .int .i64 1001] : Array Value)[j * 3 + 1]? = some (.int .i64 y.two) ∧ (#[.int .i64 0, .int .i64 0, .int .i64 0, .int .i64 61, .int .i64 61, .int .i64 17, .int .i64 61, .int .i64 53, .int .i64 6, .int .i64 60, .int .i64 53, .int .i64 17, .int .i64 7, .int .i64 53, .int .i64 17, .int .i64 61, .int .i64 53, .int .i64 1001] : Array Value)[j * 3 + 2]? = some (.int .i64 y.exp) := by
  obtain rfl | rfl | rfl | rfl | rfl | rfl : j = 0 ∨ j = 1 ∨ j = 2 ∨ j = 3 ∨ j = 4 ∨ j = 5 := by omega
  · exact ⟨⟨0, 0, 0⟩, by simp [ShKy, ShI] <;> decide, rfl, rfl, rfl⟩
  · exact ⟨⟨61, 61, 17⟩, by simp [ShKy, ShI] <;> decide, rfl, rfl, rfl⟩
  · exact ⟨⟨61, 53, 6⟩, by simp [ShKy, ShI] <;> decide, rfl, rfl, rfl⟩
  · exact ⟨⟨60, 53, 17⟩, by simp [ShKy, ShI] <;> decide, rfl, rfl, rfl⟩
  · exact ⟨⟨7, 53, 17⟩, by simp [ShKy, ShI] <;> decide, rfl, rfl, rfl⟩
  · exact ⟨⟨61, 53, 1001⟩, by simp [ShKy, ShI] <;> decide, rfl, rfl, rfl⟩
def DrawnKy (w : World) (e : Ending) (w' : World) : Prop := ∃ y : Ky, e = .returned (aggKy y) ∧ ShKy y ∧ Below w.heap.size w w'
def DrawnKyI (w : World) (e : Ending) (w' : World) : Prop := ∃ (y : Ky) (x : Int), e = .returned (.tuple #[aggKy y, .int .i64 x]) ∧ ShKy y ∧ Below w.heap.size w w'
/-- what the operations of the region yield -/
def QOpnD (B g : Nat) (mm : Int) (j : Nat) (v : Value) (w : World) : Prop :=
  match j with
  | 0 => v = .int .i64 mm
  | 1 => v = .pointer (some ⟨g, 0, none⟩)
  | 2 => IntIn 0 59 v
  | 3 => IntIn 3 62 v
  | 4 => IntLit B g 4 2 1001 v w
  | 5 => IntLit B g 7 0 3 v w
  | 6 => v = .pointer (some ⟨g, 0, none⟩)
  | 7 => IntIn 0 6 v
  | 8 => IntAt2 g 0 3 v w
  | 9 => IntIn 0 3 v
  | 10 => IntAt2 g 2 1001 v w
  | 11 => IntIn 2 1001 v
  | 12 => v = .pointer (some ⟨g, 0, none⟩)
  | 13 => v = .int .i64 mm
  | 14 => IntIn 0 2000002 v
  | 15 => v = .int .i64 mm
  | 16 => IntIn 2 1001 v
  | 17 => IntIn 0 2000002 v
  | _ => False
theorem QOpnD_mono {B g : Nat} {mm : Int} (j : Nat) (v : Value) (w w' : World) (_ : j < 18) (h : QOpnD B g mm j v w) (hg : w.grownBy w' (some g)) : QOpnD B g mm j v w' := by
  match j, h with
  | 0, h => exact h
  | 1, h => exact h
  | 2, h => exact h
  | 3, h => exact h
  | 4, h => exact IntLit.mono h hg
  | 5, h => exact IntLit.mono h hg
  | 6, h => exact h
  | 7, h => exact h
  | 8, h => exact IntAt2.mono h hg
  | 9, h => exact h
  | 10, h => exact IntAt2.mono h hg
  | 11, h => exact h
  | 12, h => exact h
  | 13, h => exact h
  | 14, h => exact h
  | 15, h => exact h
  | 16, h => exact h
  | 17, h => exact h
theorem below_grown {w w' : World} (h : Below w.heap.size w w') (row : Option Nat) : w.grownBy w' row := ⟨h.os, h.tape, h.output, h.size, fun k hk _ => h.block k hk⟩
theorem sgX_rng (k : Ky) (s : ByteArray) (hs : s.size ≤ 81) : (sgX k s).1.text.size ≤ 81 ∧ 0 ≤ (sgX k s).1.sig ∧ (sgX k s).1.sig ≤ 994009 := by
  rcases q : sgX k s with ⟨x, ok⟩
  cases ok with
  | true =>
    obtain ⟨h1, h2, _, _, _, _, h3, h4⟩ := sgX_sig q
    exact ⟨by show x.text.size ≤ 81; omega, h3, h4⟩
  | false =>
    have := sgX_no q
    subst this
    exact ⟨by decide, by decide, by decide⟩
/-- a signature that was drawn, and the reader -/
def DrewSg (W w : World) (g m : Nat) (e : Ending) (w' : World) : Prop := ∃ y : Sg, e = .returned (aggSg y) ∧ y.text.size ≤ 100 ∧ Rd W w' g m ∧ w.grownBy w' (some g)
/-- what the operations of the region yield -/
def QSgC (B g : Nat) (b3 : Nat) (sg : Int) (j : Nat) (v : Value) (w : World) : Prop :=
  match j with
  | 0 => v = .pointer (some ⟨b3, 3, none⟩)
  | 1 => v = .int .i64 sg
  | 2 => IntLit B g 3 (-1) 100000000 v w
  | 3 => v = .pointer (some ⟨g, 0, none⟩)
  | 4 => IntIn 0 2 v
  | 5 => IntAt2 g (-1) 100000000 v w
  | 6 => IntIn (-1) 100000000 v
  | 7 => IntIn (-2) 100994009 v
  | 8 => v = .pointer (some ⟨b3, 3, none⟩)
  | _ => False
theorem QSgC_mono {B g : Nat} {b3 : Nat} {sg : Int} (j : Nat) (v : Value) (w w' : World) (_ : j < 9) (h : QSgC B g b3 sg j v w) (hg : w.grownBy w' (some g)) : QSgC B g b3 sg j v w' := by
  match j, h with
  | 0, h => exact h
  | 1, h => exact h
  | 2, h => exact IntLit.mono h hg
  | 3, h => exact h
  | 4, h => exact h
  | 5, h => exact IntAt2.mono h hg
  | 6, h => exact h
  | 7, h => exact h
  | 8, h => exact h
/-- what the operations of the region yield -/
def QSgD (B g : Nat) (j : Nat) (v : Value) (w : World) : Prop :=
  match j with
  | 0 => IntLit B g 4 0 1000001 v w
  | 1 => v = .pointer (some ⟨g, 0, none⟩)
  | 2 => IntIn 0 3 v
  | 3 => IntAt2 g 0 1000001 v w
  | 4 => IntIn 0 1000001 v
  | _ => False
theorem QSgD_mono {B g : Nat} (j : Nat) (v : Value) (w w' : World) (_ : j < 5) (h : QSgD B g j v w) (hg : w.grownBy w' (some g)) : QSgD B g j v w' := by
  match j, h with
  | 0, h => exact IntLit.mono h hg
  | 1, h => exact h
  | 2, h => exact h
  | 3, h => exact IntAt2.mono h hg
  | 4, h => exact h
def DrawnSg (w : World) (e : Ending) (w' : World) : Prop := ∃ y : Sg, e = .returned (aggSg y) ∧ y.text.size ≤ 100 ∧ Below w.heap.size w w'
def DrawnKyS (w : World) (e : Ending) (w' : World) : Prop := ∃ (y : Ky) (s : ByteArray), e = .returned (.tuple #[aggKy y, .string s]) ∧ s.size ≤ 81 ∧ Below w.heap.size w w'
/-- what the operations of the region yield -/
def QSb (g : Nat) (one two exp : Int) (j : Nat) (v : Value) : Prop :=
  match j with
  | 0 => v = .agg #[.int .i64 one, .int .i64 two, .int .i64 exp]
  | 1 => v = .pointer (some ⟨g, 0, none⟩)
  | 2 => StrIs 81 v
  | 3 => ∃ (y : Sg) (ok : Bool), v = .tuple #[aggSg y, .bool ok] ∧ y.text.size ≤ 100
  | 4 => ∃ (y : Sg) (ok : Bool), v = .tuple #[aggSg y, .bool ok] ∧ y.text.size ≤ 100
  | 5 => ∃ y : Sg, v = aggSg y ∧ y.text.size ≤ 100
  | 6 => ∃ ok : Bool, v = .bool ok
  | 9 => ∃ ok : Bool, v = .bool ok
  | _ => False
def rowOf : Value → Array Value
  | .agg cs => cs
  | _ => #[]
def DrawnSgK (w : World) (e : Ending) (w' : World) : Prop := ∃ (y : Sg) (k : Ky), e = .returned (.tuple #[aggSg y, aggKy k]) ∧ y.text.size ≤ 100 ∧ Below w.heap.size w w'
end Go.Proofs.Ytfihfnajgkmhhaa
