/-
  The verifier's own text: DMod DMod2 DDg DDg2 DKy DKy2 DKy3 DSg DSg2 DSg3.
-/
import Derived.Test.YthniiknhbhoncaaRows
import Derived.Test.YthniiknhbhoncaaJB
import Derived.Test.YthniiknhbhoncaaGh
import Derived.Test.YthniiknhbhoncaaGb
import Derived.IntWalk
import Derived.Deep.DeepCutAuto
import Derived.Test.YthniiknhbhoncaaJH
import Derived.Test.YthniiknhbhoncaaGs
import Derived.Test.YthniiknhbhoncaaHE
import Derived.Test.YthniiknhbhoncaaHA
import Derived.Test.YthniiknhbhoncaaGn
import Derived.Test.YthniiknhbhoncaaJC
import Derived.Test.YthniiknhbhoncaaHB
import Derived.WalkKit
import Derived.ProofKit
import Derived.Below
import Derived.Lib.Hide
import Derived.Outline
import Derived.BigQuiet
import Derived.Deep.QuietTactic
import Derived.Deep.Draws
import Derived.Laws.OwnMore
import Derived.Laws.Rows
import Derived.WalkSpells
import Derived.Deep.RegionWith
namespace Go.Proofs.Ythniiknhbhoncaa
open Go.RowKit
set_option linter.unusedVariables false
theorem mul_nn {x y b d : Int} (h0 : 0 ≤ x) (h1 : x ≤ b) (h2 : 0 ≤ y) (h3 : y ≤ d) : 0 ≤ x * y ∧ x * y ≤ b * d :=
  ⟨Int.mul_nonneg h0 h2, Int.le_trans (Int.mul_le_mul_of_nonneg_right h1 h2) (Int.mul_le_mul_of_nonneg_left h3 (by omega))⟩
theorem mod_rng {x y : Int} (h0 : 0 ≤ x) (h1 : 0 < y) : 0 ≤ x % y ∧ x % y ≤ y - 1 ∧ x % y ≤ x := by
  have a := Int.emod_nonneg x (b := y) (by omega)
  have b := Int.emod_lt_of_pos x (b := y) h1
  refine ⟨a, by omega, ?_⟩
  have c : x / y * y + x % y = x := Int.ediv_mul_add_emod x y
  have d := Int.mul_nonneg (Int.ediv_nonneg h0 (Int.le_of_lt h1)) (Int.le_of_lt h1)
  omega
def DrewIn (lo hi : Int) (W w : World) (g m : Nat) (e : Ending) (w' : World) : Prop := ∃ v : Int, e = .returned (.int .i64 v) ∧ lo ≤ v ∧ v ≤ hi ∧ Rd W w' g m ∧ w.grownBy w' (some g)
/-- what the operations of the region yield -/
def QModu (B g : Nat) (j : Nat) (v : Value) (w : World) : Prop :=
  match j with
  | 0 => v = .pointer (some ⟨g, 0, none⟩)
  | 1 => IntIn 0 59 v
  | 2 => IntIn 2 61 v
  | 3 => IntLit B g 7 0 1000001 v w
  | 4 => IntLit B g 10 0 6 v w
  | 5 => v = .pointer (some ⟨g, 0, none⟩)
  | 6 => IntIn 0 9 v
  | 7 => IntAt2 g 0 6 v w
  | 8 => IntIn 0 6 v
  | 9 => IntAt2 g 0 1000001 v w
  | 10 => IntIn 0 1000001 v
  | 11 => IntIn 0 1000001 v
  | _ => False
theorem QModu_mono {B g : Nat} (j : Nat) (v : Value) (w w' : World) (_ : j < 12) (h : QModu B g j v w) (hg : w.grownBy w' (some g)) : QModu B g j v w' := by
  match j, h with
  | 0, h => exact h
  | 1, h => exact h
  | 2, h => exact h
  | 3, h => exact IntLit.mono h hg
  | 4, h => exact IntLit.mono h hg
  | 5, h => exact h
  | 6, h => exact h
  | 7, h => exact IntAt2.mono h hg
  | 8, h => exact h
  | 9, h => exact IntAt2.mono h hg
  | 10, h => exact h
  | 11, h => exact h
/-- what the operations of the region yield -/
def QBelo (B g : Nat) (n : Int) (j : Nat) (v : Value) (w : World) : Prop :=
  match j with
  | 0 => v = .pointer (some ⟨g, 0, none⟩)
  | 1 => IntIn 0 255 v
  | 2 => IntIn 0 996285 v
  | 3 => v = .int .i64 n
  | 4 => IntIn 1 1000001 v
  | 5 => IntIn 0 996285 v
  | 6 => v = .pointer (some ⟨g, 0, none⟩)
  | 7 => IntIn 0 13 v
  | 8 => IntIn 0 1 v
  | 9 => v = .int .i64 n
  | 10 => IntIn 0 1000001 v
  | 11 => IntIn 0 1996286 v
  | 12 => IntIn 0 1996286 v
  | _ => False
theorem QBelo_mono {B g : Nat} {n : Int} (j : Nat) (v : Value) (w w' : World) (_ : j < 13) (h : QBelo B g n j v w) (hg : w.grownBy w' (some g)) : QBelo B g n j v w' := by
  match j, h with
  | 0, h => exact h
  | 1, h => exact h
  | 2, h => exact h
  | 3, h => exact h
  | 4, h => exact h
  | 5, h => exact h
  | 6, h => exact h
  | 7, h => exact h
  | 8, h => exact h
  | 9, h => exact h
  | 10, h => exact h
  | 11, h => exact h
  | 12, h => exact h
/-- what the operations of the region yield -/
def QPowD (B g : Nat) (mm : Int) (aa : Int) (j : Nat) (v : Value) (w : World) : Prop :=
  match j with
  | 0 => v = .int .i64 aa
  | 1 => v = .pointer (some ⟨g, 0, none⟩)
  | 2 => IntIn 0 19 v
  | 3 => v = .pointer (some ⟨g, 0, none⟩)
  | 4 => IntIn 0 255 v
  | 5 => IntIn 0 765000 v
  | 6 => IntLit B g 4 (-1) 1000000000 v w
  | 7 => IntLit B g 7 0 3 v w
  | 8 => v = .pointer (some ⟨g, 0, none⟩)
  | 9 => IntIn 0 6 v
  | 10 => IntAt2 g 0 3 v w
  | 11 => IntIn 0 3 v
  | 12 => IntAt2 g (-1) 1000000000 v w
  | 13 => IntIn (-1) 1000000000 v
  | 14 => v = .int .i64 mm
  | 15 => v = .int .i64 aa
  | 16 => IntIn (-1) 1000000000 v
  | 17 => v = .int .i64 mm
  | _ => False
theorem QPowD_mono {B g : Nat} {mm : Int} {aa : Int} (j : Nat) (v : Value) (w w' : World) (_ : j < 18) (h : QPowD B g mm aa j v w) (hg : w.grownBy w' (some g)) : QPowD B g mm aa j v w' := by
  match j, h with
  | 0, h => exact h
  | 1, h => exact h
  | 2, h => exact h
  | 3, h => exact h
  | 4, h => exact h
  | 5, h => exact h
  | 6, h => exact IntLit.mono h hg
  | 7, h => exact IntLit.mono h hg
  | 8, h => exact h
  | 9, h => exact h
  | 10, h => exact IntAt2.mono h hg
  | 11, h => exact h
  | 12, h => exact IntAt2.mono h hg
  | 13, h => exact h
  | 14, h => exact h
  | 15, h => exact h
  | 16, h => exact h
  | 17, h => exact h
/-- what the operations of the region yield -/
def QPriD (B g : Nat) (j : Nat) (v : Value) (w : World) : Prop :=
  match j with
  | 0 => v = .pointer (some ⟨g, 0, none⟩)
  | 1 => IntIn 0 255 v
  | 2 => v = .pointer (some ⟨g, 0, none⟩)
  | 3 => IntIn 0 255 v
  | 4 => IntIn 0 1020 v
  | 5 => IntIn 1 1021 v
  | 6 => IntLit B g 6 (-7) 1021 v w
  | 7 => IntLit B g 9 0 5 v w
  | 8 => v = .pointer (some ⟨g, 0, none⟩)
  | 9 => IntIn 0 8 v
  | 10 => IntAt2 g 0 5 v w
  | 11 => IntIn 0 5 v
  | 12 => IntAt2 g (-7) 1021 v w
  | 13 => IntIn (-7) 1021 v
  | 14 => IntIn (-7) 1021 v
  | _ => False
theorem QPriD_mono {B g : Nat} (j : Nat) (v : Value) (w w' : World) (_ : j < 15) (h : QPriD B g j v w) (hg : w.grownBy w' (some g)) : QPriD B g j v w' := by
  match j, h with
  | 0, h => exact h
  | 1, h => exact h
  | 2, h => exact h
  | 3, h => exact h
  | 4, h => exact h
  | 5, h => exact h
  | 6, h => exact IntLit.mono h hg
  | 7, h => exact IntLit.mono h hg
  | 8, h => exact h
  | 9, h => exact h
  | 10, h => exact IntAt2.mono h hg
  | 11, h => exact h
  | 12, h => exact IntAt2.mono h hg
  | 13, h => exact h
  | 14, h => exact h
/-- what the operations of the region yield -/
def QDgMr (B g : Nat) (j : Nat) (v : Value) (w : World) : Prop :=
  match j with
  | 0 => v = .pointer (some ⟨g, 0, none⟩)
  | 1 => IntIn 0 255 v
  | 2 => IntIn 0 994500 v
  | 3 => IntLit B g 4 (-1) 999983 v w
  | 4 => IntLit B g 7 0 3 v w
  | 5 => v = .pointer (some ⟨g, 0, none⟩)
  | 6 => IntIn 0 6 v
  | 7 => IntAt2 g 0 3 v w
  | 8 => IntIn 0 3 v
  | 9 => IntAt2 g (-1) 999983 v w
  | 10 => IntIn (-1) 999983 v
  | 11 => v = .pointer (some ⟨g, 0, none⟩)
  | 12 => IntIn 0 98 v
  | 13 => IntIn 30 128 v
  | 14 => IntIn (-1) 999983 v
  | 15 => IntIn 30 128 v
  | _ => False
theorem QDgMr_mono {B g : Nat} (j : Nat) (v : Value) (w w' : World) (_ : j < 16) (h : QDgMr B g j v w) (hg : w.grownBy w' (some g)) : QDgMr B g j v w' := by
  match j, h with
  | 0, h => exact h
  | 1, h => exact h
  | 2, h => exact h
  | 3, h => exact IntLit.mono h hg
  | 4, h => exact IntLit.mono h hg
  | 5, h => exact h
  | 6, h => exact h
  | 7, h => exact IntAt2.mono h hg
  | 8, h => exact h
  | 9, h => exact IntAt2.mono h hg
  | 10, h => exact h
  | 11, h => exact h
  | 12, h => exact h
  | 13, h => exact h
  | 14, h => exact h
  | 15, h => exact h
/-- a list of ints that was drawn -/
def DrawnZs (N : Nat) (w : World) (e : Ending) (w' : World) : Prop := ∃ (v : Value) (L : List Int), e = .returned v ∧ L.length ≤ N ∧ OwnZ w' w.heap.size v L ∧ Below w.heap.size w w'
/-- what the operations of the region yield -/
def QDgLi (B g : Nat) (sv : Value) (j : Nat) (v : Value) (w : World) : Prop :=
  match j with
  | 0 => v = sv
  | 1 => v = .pointer (some ⟨g, 0, none⟩)
  | 2 => IntIn 0 255 v
  | 3 => IntLit B g 3 (-1) 1000000000 v w
  | 4 => IntLit B g 15 0 2 v w
  | 5 => v = .pointer (some ⟨g, 0, none⟩)
  | 6 => IntIn 0 14 v
  | 7 => IntAt2 g 0 2 v w
  | 8 => IntIn 0 2 v
  | 9 => IntAt2 g (-1) 1000000000 v w
  | 10 => IntIn (-1) 1000000000 v
  | _ => False
theorem QDgLi_mono {B g : Nat} {sv : Value} (j : Nat) (v : Value) (w w' : World) (_ : j < 11) (h : QDgLi B g sv j v w) (hg : w.grownBy w' (some g)) : QDgLi B g sv j v w' := by
  match j, h with
  | 0, h => exact h
  | 1, h => exact h
  | 2, h => exact h
  | 3, h => exact IntLit.mono h hg
  | 4, h => exact IntLit.mono h hg
  | 5, h => exact h
  | 6, h => exact h
  | 7, h => exact IntAt2.mono h hg
  | 8, h => exact h
  | 9, h => exact IntAt2.mono h hg
  | 10, h => exact h
/-- one that was drawn, and the reader -/
def DrewKy (W w : World) (g m : Nat) (e : Ending) (w' : World) : Prop := ∃ y : Ky, e = .returned (aggKy y) ∧ ShKy y ∧ Rd W w' g m ∧ w.grownBy w' (some g)
/-- what the operations of the region yield -/
def QKy (B g : Nat) (n : Int) (j : Nat) (v : Value) (w : World) : Prop :=
  match j with
  | 0 => ∃ cs : Array Value, cs.size = 4 ∧ IntRow2 (11) (997) cs ∧ LitAt B g 4 cs v w
  | 1 => v = .pointer (some ⟨g, 0, none⟩)
  | 2 => IntUp 4 v
  | 3 => IntAt2 g (11) (997) v w
  | 4 => ∃ z : Int, v = .int .i64 z ∧ 11 ≤ z ∧ z ≤ 997
  | 5 => ∃ cs : Array Value, cs.size = 4 ∧ IntRow2 (13) (991) cs ∧ LitAt B g 4 cs v w
  | 6 => v = .pointer (some ⟨g, 0, none⟩)
  | 7 => IntUp 4 v
  | 8 => IntAt2 g (13) (991) v w
  | 9 => ∃ z : Int, v = .int .i64 z ∧ 13 ≤ z ∧ z ≤ 991
  | 10 => ∃ cs : Array Value, cs.size = 4 ∧ IntRow2 (7) (37) cs ∧ LitAt B g 4 cs v w
  | 11 => v = .pointer (some ⟨g, 0, none⟩)
  | 12 => IntUp 4 v
  | 13 => IntAt2 g (7) (37) v w
  | 14 => ∃ z : Int, v = .int .i64 z ∧ 7 ≤ z ∧ z ≤ 37
  | 15 => ∃ y : Ky, v = aggKy y ∧ ShKy y
  | _ => False
theorem QKy_mono {B g : Nat} {n : Int} (j : Nat) (v : Value) (w w' : World) (_ : j < 16) (h : QKy B g n j v w) (hg : w.grownBy w' (some g)) : QKy B g n j v w' := by
  match j, h with
  | 0, h => obtain ⟨cs, h1, h2, h3⟩ := h; exact ⟨cs, h1, h2, LitAt.mono h3 hg⟩
  | 1, h => exact h
  | 2, h => exact h
  | 3, h => exact IntAt2.mono h hg
  | 4, h => exact h
  | 5, h => obtain ⟨cs, h1, h2, h3⟩ := h; exact ⟨cs, h1, h2, LitAt.mono h3 hg⟩
  | 6, h => exact h
  | 7, h => exact h
  | 8, h => exact IntAt2.mono h hg
  | 9, h => exact h
  | 10, h => obtain ⟨cs, h1, h2, h3⟩ := h; exact ⟨cs, h1, h2, LitAt.mono h3 hg⟩
  | 11, h => exact h
  | 12, h => exact h
  | 13, h => exact IntAt2.mono h hg
  | 14, h => exact h
  | 15, h => exact h
def FinKy (W w0 : World) (g m : Nat) (Fr : (Nat → Value) → Act) (a : Act) (w' : World) : Prop := ∃ (x : Nat → Value) (y : Ky), a = Fr x ∧ w'.heap[w0.heap.size]? = some (.cells #[.int .i64 y.one, .int .i64 y.two, .int .i64 y.exp] 24 (0, 0)) ∧ ShKy y ∧ Rd W w' g m ∧ w0.grownBy w' (some g)
theorem lit_ky (j : Nat) (hj : j < 6) : ∃ y : Ky, ShKy y ∧ (#[.int .i64 0, .int .i64 0, .int .i64 0, .int .i64 61, .int .i64 61, .int .i64 17, .int .i64 61, .int .i64 53, .int .i64 6, .int .i64 60, .int .i64 53, .int .i64 17, .int .i64 7, .int .i64 53, .int .i64 17, .int .i64 61, .int .i64 53, .int .i64 1001] : Array Value)[j * 3]? = some (.int .i64 y.one) ∧ (#[.int .i64 0, .int .i64 0, .int .i64 0, .int .i64 61, .int .i64 61, .int .i64 17, .int .i64 61, .int .i64 53, .int .i64 6, .int .i64 60, .int .i64 53, .int .i64 17, .int .i64 7, .int .i64 53, .int .i64 17, .int .i64 61, .int .i64 53, .int .i64 1001] : Array Value)[j * 3 + 1]? = some (.int .i64 y.two) ∧ (#[.int .i64 0, .int .i64 0, .int .i64 0, .int .i64 61, .int .i64 61, .int .i64 17, .int .i64 61, .int .i64 53, .int .i64 6, .int .i64 60, .int .i64 53, .int .i64 17, .int .i64 7, .int .i64 53, .int .i64 17, .int .i64 61, .int .i64 53, .int .i64 1001] : Array Value)[j * 3 + 2]? = some (.int .i64 y.exp) := by
  obtain rfl | rfl | rfl | rfl | rfl | rfl : j = 0 ∨ j = 1 ∨ j = 2 ∨ j = 3 ∨ j = 4 ∨ j = 5 := by omega
  · exact ⟨⟨0, 0, 0⟩, by simp [ShKy, ShI] <;> decide, rfl, rfl, rfl⟩
  · exact ⟨⟨61, 61, 17⟩, by simp [ShKy, ShI] <;> decide, rfl, rfl, rfl⟩
  · exact ⟨⟨61, 53, 6⟩, by simp [ShKy, ShI] <;> decide, rfl, rfl, rfl⟩
  · exact ⟨⟨60, 53, 17⟩, by simp [ShKy, ShI] <;> decide, rfl, rfl, rfl⟩
  · exact ⟨⟨7, 53, 17⟩, by simp [ShKy, ShI] <;> decide, rfl, rfl, rfl⟩
  · exact ⟨⟨61, 53, 1001⟩, by simp [ShKy, ShI] <;> decide, rfl, rfl, rfl⟩
set_option maxRecDepth 100000 in
set_option maxHeartbeats 8000000 in
theorem ky_draw (W w : World) (g m : Nat) (n : Int) (h : Rd W w g m) (hm : m ≤ 700000) (hn1 : -1000000 ≤ n) (hn2 : n ≤ 1000000) :
    Calls Try.prog 26 #[.pointer (some ⟨g, 0, none⟩), .int .i64 n] w (DrewKy W w g (m + 4)) := by
  have hlt := h.lt
  have hlo := h.lo
  have hWw : W.heap.size ≤ w.heap.size := h.bel.size
  obtain ⟨w1, hw1⟩ : ∃ w1, w.alloc (.cells #[.int .i64 0, .int .i64 0, .int .i64 0] 24) = w1 := ⟨_, rfl⟩
  have hr1 : Rd W w1 g m := by rw [← hw1]; exact h.alloc _
  have hz1 : w1.heap[w.heap.size]? = some (.cells #[.int .i64 0, .int .i64 0, .int .i64 0] 24 (0, 0)) := by rw [← hw1]; exact heap_alloc_new w _
  have hgw0 : w.grownBy w1 (some g) := by rw [← hw1]; exact grown_alloc w _ _
  have hs0 : w.heap.size < w1.heap.size := by rw [← hw1]; simp
  go_enter Try.func26, Try.ntmps26
  go_wp2_with fail
  have hw1 := Lib.hid hw1
  refine (odd_any W _ g m n hr1 (by omega) hn1 hn2).mono ?_
  rintro e wo ⟨b, rfl, hr2, hg2⟩
  have hz2 : wo.heap[w.heap.size]? = some (.cells #[.int .i64 0, .int .i64 0, .int .i64 0] 24 (0, 0)) := (hg2.block w.heap.size hs0 (by intro e; injection e; omega)).trans hz1
  have hgw1 : w.grownBy wo (some g) := grown_trans hgw0 hg2
  have hs1 : w.heap.size < wo.heap.size := Nat.lt_of_lt_of_le hs0 hg2.size
  clear hg2
  cases b with
  | false =>
    go_wp2
    obtain ⟨Fr, hFr⟩ : ∃ Fr : (Nat → Value) → Act, Fr = (fun x => { tmps := #[.pointer (some ⟨g, 0, none⟩), .int .i64 n, undef, undef, .pointer (some ⟨w.heap.size, 0, none⟩), .pointer (some ⟨g, 0, none⟩), .int .i64 n, .bool false, undef, undef, undef, undef, undef, undef, undef, undef, undef, undef, undef, x 0, x 1, x 2, x 3, x 4, x 5, x 6, x 7, x 8, x 9, x 10, x 11, x 12, x 13, x 14, x 15], defers := [] }) := ⟨_, rfl⟩
    refine draw_region (n := 16) (by kernel_rfl) rfl W g (m + 1) [(2, 1), (7, 1), (12, 1)] Fr
      (QKy wo.heap.size g n) (FinKy W w g ((m + 1) + 3) Fr) (by kernel_rfl) (by kernel_rfl) (fun _ => undef) (by rw [hFr]) hr2 QKy_mono ?_ ?_ ?_
    · intro i o f x w2 hi ho hf hp hG hQ K hK
      subst hFr
      have hB : wo.heap.size ≤ w2.heap.size := hG.gr.size
      have hcost := cost_all [(2, 1), (7, 1), (12, 1)] f
      have hca : costAll [(2, 1), (7, 1), (12, 1)] = 3 := rfl
      obtain rfl | rfl | rfl | rfl | rfl | rfl | rfl | rfl | rfl | rfl | rfl | rfl | rfl | rfl | rfl | rfl : i = 0 ∨ i = 1 ∨ i = 2 ∨ i = 3 ∨ i = 4 ∨ i = 5 ∨ i = 6 ∨ i = 7 ∨ i = 8 ∨ i = 9 ∨ i = 10 ∨ i = 11 ∨ i = 12 ∨ i = 13 ∨ i = 14 ∨ i = 15 := by omega
      · simp at ho
        subst ho
        rw [if_pos (by rfl)]
        go_simp
        have hsr : IntRow2 (11) (997) #[.int .i64 (61), .int .i64 (59), .int .i64 (997), .int .i64 (11)] := by
          intro j h
          have h' : j < 4 := h
          obtain rfl | rfl | rfl | rfl : j = 0 ∨ j = 1 ∨ j = 2 ∨ j = 3 := by omega
          all_goals exact ⟨_, rfl, by omega, by omega⟩
        have key := hK (.slice (some ⟨w2.heap.size, 0, none⟩) 4 4) (w2.alloc (.cells #[.int .i64 (61), .int .i64 (59), .int .i64 (997), .int .i64 (11)] 3)) ⟨#[.int .i64 (61), .int .i64 (59), .int .i64 (997), .int .i64 (11)], rfl, hsr, LitAt.new hB hG.lt⟩ (grown_alloc _ _ _) (hG.alloc _ 0)
        simp [setX] at key
        exact key
      · simp at ho
        subst ho
        rw [if_pos (by rfl)]
        go_simp
        exact hK _ _ rfl (grown_refl _ _) (hG.step 1)
      · simp at ho
        subst ho
        have p1 : f 1 = true := hp { on := 1, ground := .data } (by simp) rfl
        have q1 := hQ 1 (by omega) p1
        have q1 : x 1 = .pointer (some ⟨g, 0, none⟩) := q1
        rw [if_pos (by rfl)]
        go_simp
        refine (pick_any W _ g ((m + 1) + costF [(2, 1), (7, 1), (12, 1)] f) 4 hG.rd' (by omega)).mono ?_
        rintro e w' ⟨v, v0, v1, _, rfl, hr', hg'⟩
        have key := hK _ _ ⟨v, rfl, v0, v1 (by omega)⟩ hg' (hG.call (i := 2) (c := 1) (by simp) hf hr' hg')
        simp [setX, q1] at key
        exact key
      · simp at ho
        subst ho
        have p0 : f 0 = true := hp { on := 0, ground := .data } (by simp) rfl
        have q0 := hQ 0 (by omega) p0
        have p2 : f 2 = true := hp { on := 2, ground := .data } (by simp) rfl
        have q2 := hQ 2 (by omega) p2
        obtain ⟨cs, hcs, hsr, hla⟩ := q0
        obtain ⟨z, hz, z0, z1⟩ := q2
        obtain ⟨b, hb, hs⟩ := LitAt.atI hla hsr hcs z0 z1
        rw [if_pos (by rfl)]
        go_simp
        have key := hK _ _ hs (grown_refl _ _) (hG.step 3)
        simp [setX, hz, hb] at key
        exact key
      · simp at ho
        subst ho
        have p3 : f 3 = true := hp { on := 3, ground := .data } (by simp) rfl
        have q3 := hQ 3 (by omega) p3
        obtain ⟨b, j, s, hx, _, _, hc, hs, ht⟩ := q3
        rw [if_pos (by rfl)]
        go_simp
        have key := hK _ _ ⟨s, rfl, hs, ht⟩ (grown_refl _ _) (hG.step 4)
        simp [setX, hx] at key
        exact key
      · simp at ho
        subst ho
        rw [if_pos (by rfl)]
        go_simp
        have hsr : IntRow2 (13) (991) #[.int .i64 (53), .int .i64 (47), .int .i64 (991), .int .i64 (13)] := by
          intro j h
          have h' : j < 4 := h
          obtain rfl | rfl | rfl | rfl : j = 0 ∨ j = 1 ∨ j = 2 ∨ j = 3 := by omega
          all_goals exact ⟨_, rfl, by omega, by omega⟩
        have key := hK (.slice (some ⟨w2.heap.size, 0, none⟩) 4 4) (w2.alloc (.cells #[.int .i64 (53), .int .i64 (47), .int .i64 (991), .int .i64 (13)] 3)) ⟨#[.int .i64 (53), .int .i64 (47), .int .i64 (991), .int .i64 (13)], rfl, hsr, LitAt.new hB hG.lt⟩ (grown_alloc _ _ _) (hG.alloc _ 5)
        simp [setX] at key
        exact key
      · simp at ho
        subst ho
        rw [if_pos (by rfl)]
        go_simp
        exact hK _ _ rfl (grown_refl _ _) (hG.step 6)
      · simp at ho
        subst ho
        have p6 : f 6 = true := hp { on := 6, ground := .data } (by simp) rfl
        have q6 := hQ 6 (by omega) p6
        have q6 : x 6 = .pointer (some ⟨g, 0, none⟩) := q6
        rw [if_pos (by rfl)]
        go_simp
        refine (pick_any W _ g ((m + 1) + costF [(2, 1), (7, 1), (12, 1)] f) 4 hG.rd' (by omega)).mono ?_
        rintro e w' ⟨v, v0, v1, _, rfl, hr', hg'⟩
        have key := hK _ _ ⟨v, rfl, v0, v1 (by omega)⟩ hg' (hG.call (i := 7) (c := 1) (by simp) hf hr' hg')
        simp [setX, q6] at key
        exact key
      · simp at ho
        subst ho
        have p5 : f 5 = true := hp { on := 5, ground := .data } (by simp) rfl
        have q5 := hQ 5 (by omega) p5
        have p7 : f 7 = true := hp { on := 7, ground := .data } (by simp) rfl
        have q7 := hQ 7 (by omega) p7
        obtain ⟨cs, hcs, hsr, hla⟩ := q5
        obtain ⟨z, hz, z0, z1⟩ := q7
        obtain ⟨b, hb, hs⟩ := LitAt.atI hla hsr hcs z0 z1
        rw [if_pos (by rfl)]
        go_simp
        have key := hK _ _ hs (grown_refl _ _) (hG.step 8)
        simp [setX, hz, hb] at key
        exact key
      · simp at ho
        subst ho
        have p8 : f 8 = true := hp { on := 8, ground := .data } (by simp) rfl
        have q8 := hQ 8 (by omega) p8
        obtain ⟨b, j, s, hx, _, _, hc, hs, ht⟩ := q8
        rw [if_pos (by rfl)]
        go_simp
        have key := hK _ _ ⟨s, rfl, hs, ht⟩ (grown_refl _ _) (hG.step 9)
        simp [setX, hx] at key
        exact key
      · simp at ho
        subst ho
        rw [if_pos (by rfl)]
        go_simp
        have hsr : IntRow2 (7) (37) #[.int .i64 (17), .int .i64 (7), .int .i64 (19), .int .i64 (37)] := by
          intro j h
          have h' : j < 4 := h
          obtain rfl | rfl | rfl | rfl : j = 0 ∨ j = 1 ∨ j = 2 ∨ j = 3 := by omega
          all_goals exact ⟨_, rfl, by omega, by omega⟩
        have key := hK (.slice (some ⟨w2.heap.size, 0, none⟩) 4 4) (w2.alloc (.cells #[.int .i64 (17), .int .i64 (7), .int .i64 (19), .int .i64 (37)] 3)) ⟨#[.int .i64 (17), .int .i64 (7), .int .i64 (19), .int .i64 (37)], rfl, hsr, LitAt.new hB hG.lt⟩ (grown_alloc _ _ _) (hG.alloc _ 10)
        simp [setX] at key
        exact key
      · simp at ho
        subst ho
        rw [if_pos (by rfl)]
        go_simp
        exact hK _ _ rfl (grown_refl _ _) (hG.step 11)
      · simp at ho
        subst ho
        have p11 : f 11 = true := hp { on := 11, ground := .data } (by simp) rfl
        have q11 := hQ 11 (by omega) p11
        have q11 : x 11 = .pointer (some ⟨g, 0, none⟩) := q11
        rw [if_pos (by rfl)]
        go_simp
        refine (pick_any W _ g ((m + 1) + costF [(2, 1), (7, 1), (12, 1)] f) 4 hG.rd' (by omega)).mono ?_
        rintro e w' ⟨v, v0, v1, _, rfl, hr', hg'⟩
        have key := hK _ _ ⟨v, rfl, v0, v1 (by omega)⟩ hg' (hG.call (i := 12) (c := 1) (by simp) hf hr' hg')
        simp [setX, q11] at key
        exact key
      · simp at ho
        subst ho
        have p10 : f 10 = true := hp { on := 10, ground := .data } (by simp) rfl
        have q10 := hQ 10 (by omega) p10
        have p12 : f 12 = true := hp { on := 12, ground := .data } (by simp) rfl
        have q12 := hQ 12 (by omega) p12
        obtain ⟨cs, hcs, hsr, hla⟩ := q10
        obtain ⟨z, hz, z0, z1⟩ := q12
        obtain ⟨b, hb, hs⟩ := LitAt.atI hla hsr hcs z0 z1
        rw [if_pos (by rfl)]
        go_simp
        have key := hK _ _ hs (grown_refl _ _) (hG.step 13)
        simp [setX, hz, hb] at key
        exact key
      · simp at ho
        subst ho
        have p13 : f 13 = true := hp { on := 13, ground := .data } (by simp) rfl
        have q13 := hQ 13 (by omega) p13
        obtain ⟨b, j, s, hx, _, _, hc, hs, ht⟩ := q13
        rw [if_pos (by rfl)]
        go_simp
        have key := hK _ _ ⟨s, rfl, hs, ht⟩ (grown_refl _ _) (hG.step 14)
        simp [setX, hx] at key
        exact key
      · simp at ho
        subst ho
        have p4 : f 4 = true := hp { on := 4, ground := .data } (by simp) rfl
        have q4 := hQ 4 (by omega) p4
        obtain ⟨z4, h4, l4, m4⟩ := q4
        have p9 : f 9 = true := hp { on := 9, ground := .data } (by simp) rfl
        have q9 := hQ 9 (by omega) p9
        obtain ⟨z9, h9, l9, m9⟩ := q9
        have p14 : f 14 = true := hp { on := 14, ground := .data } (by simp) rfl
        have q14 := hQ 14 (by omega) p14
        obtain ⟨z14, h14, l14, m14⟩ := q14
        rw [if_pos (by rfl)]
        go_simp
        have key := hK _ _ ⟨⟨z4, z9, z14⟩, rfl, (show ShI z4 from ⟨by omega, by omega⟩), (show ShI z9 from ⟨by omega, by omega⟩), (show ShI z14 from ⟨by omega, by omega⟩)⟩ (grown_refl _ _) (hG.step 15)
        simp [setX, aggKy, h4, h9, h14] at key ⊢
        exact key
    · intro o f x w2 ho hp hG hQ K hK
      subst hFr
      have hcost := cost_all [(2, 1), (7, 1), (12, 1)] f
      have hca : costAll [(2, 1), (7, 1), (12, 1)] = 3 := rfl
      simp at ho
      subst ho
      have p15 : f 15 = true := hp { on := 15, ground := .data } (by simp) rfl
      obtain ⟨y, hb0, ly⟩ := hQ 15 (by omega) p15
      obtain ⟨one, two, exp⟩ := y
      have hrow : w2.heap[w.heap.size]? = some (.cells #[.int .i64 0, .int .i64 0, .int .i64 0] 24 (0, 0)) := by
        rw [hG.gr.block w.heap.size (by show _ < wo.heap.size; omega) (by intro e; injection e; omega)]; exact hz2
      have c0 := cell_of_row w2 w.heap.size 0 _ _ (0, 0) hrow
      have c1 := cell_of_row w2 w.heap.size 1 _ _ (0, 0) hrow
      have c2 := cell_of_row w2 w.heap.size 2 _ _ (0, 0) hrow
      have f0 : ∀ j, w2.frozen? ⟨w.heap.size, j, none⟩ = false := fun j => by simp [World.frozen?, hrow]
      have g0 := heap_setCell_same w2 w.heap.size 0 _ _ (.int .i64 one) hrow
      have g1 := heap_setCell_same _ w.heap.size 1 _ _ (.int .i64 two) g0
      have g2 := heap_setCell_same _ w.heap.size 2 _ _ (.int .i64 exp) g1
      have GR := Lib.hid g2
      have HD : DrawG W w g (m + 1) [(2, 1), (7, 1), (12, 1)] f w2 := ⟨hG.rd, grown_trans hgw1 ⟨hG.gr.os, hG.gr.tape, hG.gr.output, hG.gr.size, hG.gr.block⟩⟩
      have HG := Lib.hid (((HD.store (b := w.heap.size) (Nat.le_refl _) (by omega) hWw 0 (.int .i64 one)).store (b := w.heap.size) (Nat.le_refl _) (by omega) hWw 1 (.int .i64 two)).store (b := w.heap.size) (Nat.le_refl _) (by omega) hWw 2 (.int .i64 exp))
      clear g0 g1 g2 HD
      have hb : x 15 = .agg #[.int .i64 one, .int .i64 two, .int .i64 exp] := hb0
      clear hb0
      rw [if_pos (by rfl)]
      go_simp
      refine hK _ _ ⟨x, ⟨one, two, exp⟩, ?_, ?_, ly, HG.out.rd'.more (by omega), HG.out.gr⟩
      · simp [hb]
      · exact GR.out
    · rintro a w3 ⟨x, y, rfl, hrow, ly, hr3, hg3⟩
      subst hFr
      obtain ⟨one, two, exp⟩ := y
      have r0 := cell_of_row w3 w.heap.size 0 _ _ (0, 0) hrow
      have r1 := cell_of_row w3 w.heap.size 1 _ _ (0, 0) hrow
      have r2 := cell_of_row w3 w.heap.size 2 _ _ (0, 0) hrow
      go_wp2
      refine bodyPost_ret (v := .agg #[.int .i64 one, .int .i64 two, .int .i64 exp]) (by simp [results, Try.results26, go_sem, r0, r1, r2]) rfl ⟨⟨one, two, exp⟩, rfl, ly, hr3, hg3⟩
  | true =>
    have hlt2 := hr2.lt
    go_wp2_with fail
    refine (pick_any W _ g (m + 1) 6 (hr2.alloc _) (by omega)).mono ?_
    rintro e w3 ⟨v, v0, v1, _, rfl, hr3, hg3⟩
    have v1 := v1 (by omega)
    have k0 := fun i => cell_kept hg3 hlt2 i
    have hz3 := (hg3.block w.heap.size (by simp; omega) (by intro e; injection e; omega)).trans ((Below.heap_alloc wo _ w.heap.size hs1).trans hz2)
    have hgw3 : w.grownBy w3 (some g) := grown_trans hgw1 (grown_trans (grown_alloc wo _ _) hg3)
    obtain ⟨j, rfl⟩ : ∃ j : Nat, v = j := ⟨v.toNat, by omega⟩
    have hj : j < 6 := by omega
    obtain ⟨⟨one, two, exp⟩, hsh, e0, e1, e2⟩ := lit_ky j hj
    have d0 := (k0 (j * 3)).trans e0
    have d1 := (k0 (j * 3 + 1)).trans e1
    have d2 := (k0 (j * 3 + 2)).trans e2
    simp only at d0 d1 d2
    have c0 := cell_of_row w3 w.heap.size 0 _ _ (0, 0) hz3
    have c1 := cell_of_row w3 w.heap.size 1 _ _ (0, 0) hz3
    have c2 := cell_of_row w3 w.heap.size 2 _ _ (0, 0) hz3
    have f0 : ∀ j, w3.frozen? ⟨w.heap.size, j, none⟩ = false := fun j => by simp [World.frozen?, hz3]
    have hj0 : (0 : Int) ≤ (j : Int) := by omega
    have hj4 : (j : Int) < 6 := by omega
    have HSH := Lib.hid hsh
    have HR := Lib.hid (((hr3.grown (only_setCell' w3 w.heap.size 0 (.int .i64 one)) (by intro e; injection e; omega) (by intro k hk; injection hk; omega)).grown (only_setCell' _ w.heap.size 1 (.int .i64 two)) (by intro e; injection e; omega) (by intro k hk; injection hk; omega)).grown (only_setCell' _ w.heap.size 2 (.int .i64 exp)) (by intro e; injection e; omega) (by intro k hk; injection hk; omega))
    have HG := Lib.hid (gs_set (gs_set (gs_set hgw3 (Nat.le_refl w.heap.size) 0 (.int .i64 one)) (Nat.le_refl w.heap.size) 1 (.int .i64 two)) (Nat.le_refl w.heap.size) 2 (.int .i64 exp))
    clear k0 hg3 hr3 hgw3 e0 e1 e2 hsh hr2 hz2 hz1 hr1 hgw1 hgw0 hz3
    go_wp2
    refine bodyPost_ret (v := .agg #[.int .i64 one, .int .i64 two, .int .i64 exp]) (by simp [results, Try.results26, go_sem, c0, c1, c2]) rfl ⟨⟨one, two, exp⟩, rfl, HSH.out, HR.out.more (by omega), HG.out⟩
def DrawnKy (w : World) (e : Ending) (w' : World) : Prop := ∃ y : Ky, e = .returned (aggKy y) ∧ ShKy y ∧ Below w.heap.size w w'
def DrawnKyI (w : World) (e : Ending) (w' : World) : Prop := ∃ (y : Ky) (x : Int), e = .returned (.tuple #[aggKy y, .int .i64 x]) ∧ ShKy y ∧ Below w.heap.size w w'
/-- what the operations of the region yield -/
def QOpnD (B g : Nat) (mm : Int) (j : Nat) (v : Value) (w : World) : Prop :=
  match j with
  | 0 => v = .int .i64 mm
  | 1 => v = .pointer (some ⟨g, 0, none⟩)
  | 2 => IntIn 0 59 v
  | 3 => IntIn 3 62 v
  | 4 => IntLit B g 4 2 1001 v w
  | 5 => IntLit B g 7 0 3 v w
  | 6 => v = .pointer (some ⟨g, 0, none⟩)
  | 7 => IntIn 0 6 v
  | 8 => IntAt2 g 0 3 v w
  | 9 => IntIn 0 3 v
  | 10 => IntAt2 g 2 1001 v w
  | 11 => IntIn 2 1001 v
  | 12 => v = .pointer (some ⟨g, 0, none⟩)
  | 13 => v = .int .i64 mm
  | 14 => IntIn 0 2000002 v
  | 15 => v = .int .i64 mm
  | 16 => IntIn 2 1001 v
  | 17 => IntIn 0 2000002 v
  | _ => False
theorem QOpnD_mono {B g : Nat} {mm : Int} (j : Nat) (v : Value) (w w' : World) (_ : j < 18) (h : QOpnD B g mm j v w) (hg : w.grownBy w' (some g)) : QOpnD B g mm j v w' := by
  match j, h with
  | 0, h => exact h
  | 1, h => exact h
  | 2, h => exact h
  | 3, h => exact h
  | 4, h => exact IntLit.mono h hg
  | 5, h => exact IntLit.mono h hg
  | 6, h => exact h
  | 7, h => exact h
  | 8, h => exact IntAt2.mono h hg
  | 9, h => exact h
  | 10, h => exact IntAt2.mono h hg
  | 11, h => exact h
  | 12, h => exact h
  | 13, h => exact h
  | 14, h => exact h
  | 15, h => exact h
  | 16, h => exact h
  | 17, h => exact h
theorem below_grown {w w' : World} (h : Below w.heap.size w w') (row : Option Nat) : w.grownBy w' row := ⟨h.os, h.tape, h.output, h.size, fun k hk _ => h.block k hk⟩
theorem sgX_rng (k : Ky) (s : ByteArray) (hs : s.size ≤ 81) : (sgX k s).1.text.size ≤ 81 ∧ 0 ≤ (sgX k s).1.sig ∧ (sgX k s).1.sig ≤ 994009 := by
  rcases q : sgX k s with ⟨x, ok⟩
  cases ok with
  | true =>
    obtain ⟨h1, h2, _, _, _, _, h3, h4⟩ := sgX_sig q
    exact ⟨by show x.text.size ≤ 81; omega, h3, h4⟩
  | false =>
    have := sgX_no q
    subst this
    exact ⟨by decide, by decide, by decide⟩
/-- a signature that was drawn, and the reader -/
def DrewSg (W w : World) (g m : Nat) (e : Ending) (w' : World) : Prop := ∃ y : Sg, e = .returned (aggSg y) ∧ y.text.size ≤ 100 ∧ Rd W w' g m ∧ w.grownBy w' (some g)
def SgFin (W w0 : World) (g m b : Nat) (Fr : (Nat → Value) → Act) (tx : ByteArray) (mo ex : Int) (a : Act) (w' : World) : Prop := ∃ (x : Nat → Value) (z : Int), a = Fr x ∧ w'.heap[b]? = some (.cells #[.string tx, .int .i64 mo, .int .i64 ex, .int .i64 z] 28 (0, 0)) ∧ w'.heap[w0.heap.size]? = some (.cells #[.string ⟨#[]⟩, .int .i64 0, .int .i64 0, .int .i64 0] 28 (0, 0)) ∧ Rd W w' g m ∧ w0.grownBy w' (some g)
/-- what the operations of the region yield -/
def QSgC (B g : Nat) (b3 : Nat) (sg : Int) (j : Nat) (v : Value) (w : World) : Prop :=
  match j with
  | 0 => v = .pointer (some ⟨b3, 3, none⟩)
  | 1 => v = .int .i64 sg
  | 2 => IntLit B g 3 (-1) 100000000 v w
  | 3 => v = .pointer (some ⟨g, 0, none⟩)
  | 4 => IntIn 0 2 v
  | 5 => IntAt2 g (-1) 100000000 v w
  | 6 => IntIn (-1) 100000000 v
  | 7 => IntIn (-2) 100994009 v
  | 8 => v = .pointer (some ⟨b3, 3, none⟩)
  | _ => False
theorem QSgC_mono {B g : Nat} {b3 : Nat} {sg : Int} (j : Nat) (v : Value) (w w' : World) (_ : j < 9) (h : QSgC B g b3 sg j v w) (hg : w.grownBy w' (some g)) : QSgC B g b3 sg j v w' := by
  match j, h with
  | 0, h => exact h
  | 1, h => exact h
  | 2, h => exact IntLit.mono h hg
  | 3, h => exact h
  | 4, h => exact h
  | 5, h => exact IntAt2.mono h hg
  | 6, h => exact h
  | 7, h => exact h
  | 8, h => exact h
/-- what the operations of the region yield -/
def QSgD (B g : Nat) (j : Nat) (v : Value) (w : World) : Prop :=
  match j with
  | 0 => IntLit B g 4 0 1000001 v w
  | 1 => v = .pointer (some ⟨g, 0, none⟩)
  | 2 => IntIn 0 3 v
  | 3 => IntAt2 g 0 1000001 v w
  | 4 => IntIn 0 1000001 v
  | _ => False
theorem QSgD_mono {B g : Nat} (j : Nat) (v : Value) (w w' : World) (_ : j < 5) (h : QSgD B g j v w) (hg : w.grownBy w' (some g)) : QSgD B g j v w' := by
  match j, h with
  | 0, h => exact IntLit.mono h hg
  | 1, h => exact h
  | 2, h => exact h
  | 3, h => exact IntAt2.mono h hg
  | 4, h => exact h
set_option maxRecDepth 100000 in
set_option maxHeartbeats 8000000 in
theorem sg_draw (W w : World) (g m : Nat) (h : Rd W w g m) (hm : m ≤ 700000) :
    Calls Try.prog 36 #[.pointer (some ⟨g, 0, none⟩)] w (DrewSg W w g (m + 8)) := by
  have hWw : W.heap.size ≤ w.heap.size := h.bel.size
  have hglt := h.lt
  obtain ⟨w1, hw1⟩ : ∃ w1, w.alloc (.cells #[.string ⟨#[]⟩, .int .i64 0, .int .i64 0, .int .i64 0] 28) = w1 := ⟨_, rfl⟩
  have hr1 : Rd W w1 g m := by rw [← hw1]; exact h.alloc _
  have hz1 : w1.heap[w.heap.size]? = some (.cells #[.string ⟨#[]⟩, .int .i64 0, .int .i64 0, .int .i64 0] 28 (0, 0)) := by rw [← hw1]; exact heap_alloc_new w _
  have hg1 : w.grownBy w1 (some g) := by rw [← hw1]; exact grown_alloc w _ _
  go_enter Try.func36, Try.ntmps36
  go_wp2_with fail
  have hw1 := Lib.hid hw1
  refine (ky_draw W w1 g m 0 hr1 (by omega) (by omega) (by omega)).mono ?_
  rintro e w3 ⟨⟨one, two, exp⟩, rfl, hsh, hr3, hg3⟩
  simp only [aggKy]
  go_wp2_with fail
  refine (text_draw W w3 g (m + 4) 0 hr3 (by omega) (by omega) (by omega)).mono ?_
  rintro e w4 ⟨s, hs, rfl, hr4, hg4⟩
  have hsm : s.size ≤ maxLen := by unfold maxLen; omega
  go_wp2_with fail
  refine (sgS_text one two exp s _ hsm).mono ?_
  rintro e w5 ⟨rfl, hb5⟩
  have hr5 := rd_below hr4 hb5
  have hg5 : w.grownBy w5 (some g) := grown_trans hg1 (grown_trans hg3 (grown_trans hg4 (below_grown hb5 _)))
  have hrng := sgX_rng ⟨one, two, exp⟩ s hs
  obtain ⟨P, hP⟩ : ∃ P, sgX ⟨one, two, exp⟩ s = P := ⟨_, rfl⟩
  rw [hP] at hrng ⊢
  obtain ⟨⟨tx, mo, ex, sg⟩, ok⟩ := P
  obtain ⟨ht81, sg0, sg1⟩ := hrng
  simp only at ht81 sg0 sg1
  simp only [aggSg]
  have sg0 : -1 ≤ sg := by omega
  obtain ⟨b3, hb3⟩ : ∃ b3, w5.heap.size = b3 := ⟨_, rfl⟩
  obtain ⟨w6, hw6⟩ : ∃ w6, w5.alloc (.cells #[.string tx, .int .i64 mo, .int .i64 ex, .int .i64 sg] 28) = w6 := ⟨_, rfl⟩
  have hr6 : Rd W w6 g (m + 6) := by rw [← hw6]; exact hr5.alloc _
  have hy6 : w6.heap[b3]? = some (.cells #[.string tx, .int .i64 mo, .int .i64 ex, .int .i64 sg] 28 (0, 0)) := by rw [← hw6, ← hb3]; exact heap_alloc_new w5 _
  have hg6 : w.grownBy w6 (some g) := by rw [← hw6]; exact grown_trans hg5 (grown_alloc w5 _ _)
  have hlo1 : w.heap.size < w1.heap.size := (Array.getElem?_eq_some_iff.1 hz1).1
  have hlt5 : w.heap.size < b3 := by rw [← hb3]; exact Nat.lt_of_lt_of_le hlo1 (Nat.le_trans hg3.size (Nat.le_trans hg4.size hb5.size))
  have hgb : g < b3 := by rw [← hb3]; exact hr5.lt
  have hz3 := (hg3.block w.heap.size hlo1 (by intro e; injection e; omega)).trans hz1
  have hz4 := (hg4.block w.heap.size (Array.getElem?_eq_some_iff.1 hz3).1 (by intro e; injection e; omega)).trans hz3
  have hz5 := (hb5.block w.heap.size (Array.getElem?_eq_some_iff.1 hz4).1).trans hz4
  have hz6 : w6.heap[w.heap.size]? = some (.cells #[.string ⟨#[]⟩, .int .i64 0, .int .i64 0, .int .i64 0] 28 (0, 0)) := by rw [← hw6, Below.heap_alloc _ _ _ (Array.getElem?_eq_some_iff.1 hz5).1]; exact hz5
  clear hP hsh hr3 hg3 hr4 hg4 hr5 hg5 hb5 hz1 hz3 hz4 hz5 hr1 hg1
  go_wp2_with fail
  have hw6 := Lib.hid hw6
  refine (pick_any W _ g (m + 6) 6 hr6 (by omega)).mono ?_
  rintro e w7 ⟨v, v0, v1, _, rfl, hr7, hg7⟩
  have v1 := v1 (by omega)
  have hlt6 := (Array.getElem?_eq_some_iff.1 hy6).1
  have hy7 := (hg7.block b3 hlt6 (by intro e; injection e; omega)).trans hy6
  have hz7 := (hg7.block w.heap.size (Array.getElem?_eq_some_iff.1 hz6).1 (by intro e; injection e; omega)).trans hz6
  have hG7 : w.grownBy w7 (some g) := grown_trans hg6 hg7
  clear hg7 hg6 hr6 hy6 hz6 hlt6
  -- at the end: the row of b3 is copied into the result's variable
  have FIN : ∀ (wE : World) (tx' : ByteArray) (mo' sg' : Int) (M : Nat), tx'.size ≤ 100 → M ≤ m + 8 → Rd W wE g M → w.grownBy wE (some g) → wE.heap[w.heap.size]? = some (.cells #[.string ⟨#[]⟩, .int .i64 0, .int .i64 0, .int .i64 0] 28 (0, 0)) →
      DrewSg W w g (m + 8) (.returned (aggSg ⟨tx', mo', ex, sg'⟩)) ((((wE.setCell ⟨w.heap.size, 0, none⟩ (.string tx')).setCell ⟨w.heap.size, 1, none⟩ (.int .i64 mo')).setCell ⟨w.heap.size, 2, none⟩ (.int .i64 ex)).setCell ⟨w.heap.size, 3, none⟩ (.int .i64 sg')) := by
    intro wE tx' mo' sg' M ht hM hr hg hz
    refine ⟨⟨tx', mo', ex, sg'⟩, rfl, ht, ?_, ?_⟩
    · refine Rd.more ?_ hM
      exact (((hr.grown (only_setCell' wE w.heap.size 0 (.string tx')) (by intro e; injection e; omega) (by intro k hk; injection hk; omega)).grown (only_setCell' _ w.heap.size 1 (.int .i64 mo')) (by intro e; injection e; omega) (by intro k hk; injection hk; omega)).grown (only_setCell' _ w.heap.size 2 (.int .i64 ex)) (by intro e; injection e; omega) (by intro k hk; injection hk; omega)).grown (only_setCell' _ w.heap.size 3 (.int .i64 sg')) (by intro e; injection e; omega) (by intro k hk; injection hk; omega)
    · exact gs_set (gs_set (gs_set (gs_set hg (Nat.le_refl w.heap.size) 0 (.string tx')) (Nat.le_refl w.heap.size) 1 (.int .i64 mo')) (Nat.le_refl w.heap.size) 2 (.int .i64 ex)) (Nat.le_refl w.heap.size) 3 (.int .i64 sg')
  have FIN := Lib.hid FIN
  have hbne : ¬ (b3 = w.heap.size) := by omega
  have hbne2 : ¬ (w.heap.size = b3) := by omega
  have hb3 := Lib.hid hb3
  by_cases c0 : v = 0
  · subst c0
    obtain ⟨wS, hwS⟩ : ∃ wS, w7.setCell ⟨b3, 0, none⟩ (.string ⟨#[111, 116, 104, 101, 114]⟩) = wS := ⟨_, rfl⟩
    have hyS : wS.heap[b3]? = some (.cells #[.string ⟨#[111, 116, 104, 101, 114]⟩, .int .i64 mo, .int .i64 ex, .int .i64 sg] 28 (0, 0)) := by rw [← hwS]; exact heap_setCell_same w7 b3 0 _ _ _ hy7
    have hzS : wS.heap[w.heap.size]? = some (.cells #[.string ⟨#[]⟩, .int .i64 0, .int .i64 0, .int .i64 0] 28 (0, 0)) := by rw [← hwS, Below.heap_setCell w7 ⟨b3, 0, none⟩ _ w.heap.size (by intro e; exact hbne2 e)]; exact hz7
    have hrS : Rd W wS g (m + 7) := by rw [← hwS]; exact hr7.grown (only_setCell' w7 b3 0 _) (by intro e; injection e; omega) (by intro k hk; injection hk; omega)
    have hgS : w.grownBy wS (some g) := by rw [← hwS]; exact gs_set hG7 (by omega) 0 _
    have y0 := cell_of_row w7 b3 0 _ _ (0, 0) hy7
    have f0 : ∀ j, w7.frozen? ⟨b3, j, none⟩ = false := fun j => by simp [World.frozen?, hy7]
    have x0 := cell_of_row wS b3 0 _ _ (0, 0) hyS
    have x1 := cell_of_row wS b3 1 _ _ (0, 0) hyS
    have x2 := cell_of_row wS b3 2 _ _ (0, 0) hyS
    have x3 := cell_of_row wS b3 3 _ _ (0, 0) hyS
    have z0 := cell_of_row wS w.heap.size 0 _ _ (0, 0) hzS
    have z1 := cell_of_row wS w.heap.size 1 _ _ (0, 0) hzS
    have z2 := cell_of_row wS w.heap.size 2 _ _ (0, 0) hzS
    have z3 := cell_of_row wS w.heap.size 3 _ _ (0, 0) hzS
    have zf : ∀ j, wS.frozen? ⟨w.heap.size, j, none⟩ = false := fun j => by simp [World.frozen?, hzS]
    have HF := Lib.hid (FIN.out wS ⟨#[111, 116, 104, 101, 114]⟩ mo sg (m + 7) (by decide) (by omega) hrS hgS hzS)
    clear hyS hzS hrS hgS hy7 hz7 hr7 hG7
    go_wp2
    refine bodyPost_ret (v := .agg #[.string ⟨#[111, 116, 104, 101, 114]⟩, .int .i64 mo, .int .i64 ex, .int .i64 sg]) (by simp [results, Try.results36, go_sem, z0, z1, z2, z3]) rfl ?_
    exact HF.out
  · by_cases c1 : v = 1
    · subst c1
      go_wp2_with fail
      have hkeep : ∀ wX, w7.drew.grownBy wX (some g) → ∀ j : Nat, wX.cell? ⟨b3, 3, none⟩ = some (.int .i64 sg) := fun wX hX j =>
        cell_of_row wX b3 3 _ _ (0, 0) ((hX.block b3 (Array.getElem?_eq_some_iff.1 hy7).1 (by intro e; injection e; omega)).trans hy7)
      obtain ⟨Fr, hFr⟩ : ∃ Fr : (Nat → Value) → Act, Fr = (fun x => { tmps := #[.pointer (some ⟨g, 0, none⟩), undef, .pointer (some ⟨w.heap.size, 0, none⟩), .pointer (some ⟨b3, 0, none⟩), .bool ok, .tuple #[.agg #[.string tx, .int .i64 mo, .int .i64 ex, .int .i64 sg], .bool ok], .pointer (some ⟨g, 0, none⟩), .agg #[.int .i64 one, .int .i64 two, .int .i64 exp], .pointer (some ⟨g, 0, none⟩), .string s, .tuple #[.agg #[.string tx, .int .i64 mo, .int .i64 ex, .int .i64 sg], .bool ok], .agg #[.string tx, .int .i64 mo, .int .i64 ex, .int .i64 sg], .bool ok, .pointer (some ⟨g, 0, none⟩), .int .i64 1, .bool false, .bool false, undef, .bool true, .bool true, x 0, x 1, x 2, x 3, x 4, x 5, x 6, x 7, x 8, undef, undef, undef, undef, undef, undef, undef, undef, undef], defers := [] }) := ⟨_, rfl⟩
      refine draw_region (n := 9) (by kernel_rfl) rfl W g (m + 7) [(4, 1)] Fr
        (QSgC w7.heap.size g b3 sg) (SgFin W w g (m + 8) b3 Fr tx mo ex) (by kernel_rfl) (by kernel_rfl) (fun _ => undef) (by rw [hFr] <;> rfl) hr7 QSgC_mono ?_ ?_ ?_
      · intro i o f x wx hi ho hf hp hG hQ K hK
        subst hFr
        have hB : w7.heap.size ≤ wx.heap.size := hG.gr.size
        have hcost := cost_all [(4, 1)] f
        have hca : costAll [(4, 1)] = 1 := rfl
        obtain rfl | rfl | rfl | rfl | rfl | rfl | rfl | rfl | rfl : i = 0 ∨ i = 1 ∨ i = 2 ∨ i = 3 ∨ i = 4 ∨ i = 5 ∨ i = 6 ∨ i = 7 ∨ i = 8 := by omega
        · simp at ho
          subst ho
          rw [if_pos (by rfl)]
          go_simp
          have key := hK _ _ rfl (grown_refl _ _) (hG.step 0)
          simp [setX] at key
          exact key
        · simp at ho
          subst ho
          have p0 : f 0 = true := hp { on := 0, ground := .data } (by simp) rfl
          have q0 := hQ 0 (by omega) p0
          have q0 : x 0 = .pointer (some ⟨b3, 3, none⟩) := q0
          have hbx : wx.cell? ⟨b3, 3, none⟩ = some (.int .i64 sg) := hkeep _ hG.gr 3
          rw [if_pos (by rfl)]
          go_simp
          have key := hK _ _ rfl (grown_refl _ _) (hG.step 1)
          simp [setX, q0] at key
          exact key
        · simp at ho
          subst ho
          rw [if_pos (by rfl)]
          go_simp
          have key := hK (.slice (some ⟨wx.heap.size, 0, none⟩) 3 3) (wx.alloc (.cells #[.int .i64 1, .int .i64 (-1), .int .i64 100000000] 3)) (IntLit.new rfl (intRow_cons (by omega) (by omega) (intRow_cons (by omega) (by omega) (intRow_cons (by omega) (by omega) (intRow_nil)))) hB hG.lt) (grown_alloc _ _ _) (hG.alloc _ 2)
          simp [setX] at key
          exact key
        · simp at ho
          subst ho
          rw [if_pos (by rfl)]
          go_simp
          have key := hK _ _ rfl (grown_refl _ _) (hG.step 3)
          simp [setX] at key
          exact key
        · simp at ho
          subst ho
          have p3 : f 3 = true := hp { on := 3, ground := .data } (by simp) rfl
          have q3 := hQ 3 (by omega) p3
          have q3 : x 3 = .pointer (some ⟨g, 0, none⟩) := q3
          rw [if_pos (by rfl)]
          go_simp
          refine (pick_any W _ g (m + 7 + costF [(4, 1)] f) 3 hG.rd' (by omega)).mono ?_
          rintro e w' ⟨v, v0, v1, _, rfl, hr', hg'⟩
          have key := hK _ _ ⟨v, rfl, v0, by have := v1 (by omega); omega⟩ hg' (hG.call (i := 4) (c := 1) (by simp) hf hr' hg')
          simp [setX, q3] at key
          exact key
        · simp at ho
          subst ho
          have p2 : f 2 = true := hp { on := 2, ground := .data } (by simp) rfl
          have q2 := hQ 2 (by omega) p2
          have p4 : f 4 = true := hp { on := 4, ground := .data } (by simp) rfl
          have q4 := hQ 4 (by omega) p4
          obtain ⟨z4, h4, l4, m4⟩ := q4
          obtain ⟨b, hb, hs⟩ := IntLit.at q2 (z := z4) (by omega) (by omega)
          have hiz : (z4 : Int) < 3 := by omega
          have hi0 : (0 : Int) ≤ z4 := by omega
          rw [if_pos (by rfl)]
          go_simp
          have key := hK _ _ hs (grown_refl _ _) (hG.step 5)
          simp [setX, h4, hb] at key
          exact key
        · simp at ho
          subst ho
          have p5 : f 5 = true := hp { on := 5, ground := .data } (by simp) rfl
          have q5 := hQ 5 (by omega) p5
          obtain ⟨b, jj, s, hx, _, _, hc, hs, ht⟩ := q5
          rw [if_pos (by rfl)]
          go_simp
          have key := hK _ _ ⟨s, rfl, hs, ht⟩ (grown_refl _ _) (hG.step 6)
          simp [setX, hx] at key
          exact key
        · simp at ho
          subst ho
          have p1 : f 1 = true := hp { on := 1, ground := .data } (by simp) rfl
          have q1 := hQ 1 (by omega) p1
          have q1 : x 1 = .int .i64 sg := q1
          have p6 : f 6 = true := hp { on := 6, ground := .data } (by simp) rfl
          have q6 := hQ 6 (by omega) p6
          obtain ⟨z6, h6, l6, m6⟩ := q6
          have iw := IntWalk.i64_in (sg + z6) (by omega)
          rw [if_pos (by rfl)]
          go_simp
          have key := hK _ _ ⟨(sg + z6), rfl, by omega, by omega⟩ (grown_refl _ _) (hG.step 7)
          simp [setX, q1, h6] at key
          exact key
        · simp at ho
          subst ho
          rw [if_pos (by rfl)]
          go_simp
          have key := hK _ _ rfl (grown_refl _ _) (hG.step 8)
          simp [setX] at key
          exact key
      · intro o f x wx ho hp hG hQ K hK
        subst hFr
        have hcost := cost_all [(4, 1)] f
        have hca : costAll [(4, 1)] = 1 := rfl
        simp at ho
        subst ho
        have p7 : f 7 = true := hp { on := 7, ground := .data } (by simp) rfl
        have p8 : f 8 = true := hp { on := 8, ground := .data } (by simp) rfl
        obtain ⟨z7, h7, l7, m7⟩ := hQ 7 (by omega) p7
        have q8 : x 8 = .pointer (some ⟨b3, 3, none⟩) := hQ 8 (by omega) p8
        have hyx : wx.heap[b3]? = some (.cells #[.string tx, .int .i64 mo, .int .i64 ex, .int .i64 sg] 28 (0, 0)) := (hG.gr.block b3 (Array.getElem?_eq_some_iff.1 hy7).1 (by intro e; injection e; omega)).trans hy7
        have hzx : wx.heap[w.heap.size]? = some (.cells #[.string ⟨#[]⟩, .int .i64 0, .int .i64 0, .int .i64 0] 28 (0, 0)) := (hG.gr.block w.heap.size (Array.getElem?_eq_some_iff.1 hz7).1 (by intro e; injection e; omega)).trans hz7
        have y3 := cell_of_row wx b3 3 _ _ (0, 0) hyx
        have f0 : ∀ j, wx.frozen? ⟨b3, j, none⟩ = false := fun j => by simp [World.frozen?, hyx]
        have GR := Lib.hid (heap_setCell_same wx b3 3 _ _ (.int .i64 z7) hyx)
        have GZ : Hid ((wx.setCell ⟨b3, 3, none⟩ (.int .i64 z7)).heap[w.heap.size]? = some (.cells #[.string ⟨#[]⟩, .int .i64 0, .int .i64 0, .int .i64 0] 28 (0, 0))) := Lib.hid (by rw [Below.heap_setCell wx ⟨b3, 3, none⟩ _ w.heap.size (by intro e; exact hbne2 e)]; exact hzx)
        have HD : DrawG W w g (m + 7) [(4, 1)] f wx := ⟨hG.rd, grown_trans hG7 ⟨hG.gr.os, hG.gr.tape, hG.gr.output, hG.gr.size, hG.gr.block⟩⟩
        have HG := Lib.hid (HD.store (b := b3) (by omega) (by omega) hWw 3 (.int .i64 z7))
        clear HD hyx hzx
        rw [if_pos (by rfl)]
        go_simp
        refine hK _ _ ⟨x, z7, ?_, GR.out, GZ.out, HG.out.rd'.more (by omega), HG.out.gr⟩
        simp [h7, q8]
      · rintro a w8 ⟨x, z, rfl, hy8, hz8, hr8, hG8⟩
        subst hFr
        clear hy7 hz7 hr7 hG7
        have x0 := cell_of_row w8 b3 0 _ _ (0, 0) hy8
        have x1 := cell_of_row w8 b3 1 _ _ (0, 0) hy8
        have x2 := cell_of_row w8 b3 2 _ _ (0, 0) hy8
        have x3 := cell_of_row w8 b3 3 _ _ (0, 0) hy8
        have z0 := cell_of_row w8 w.heap.size 0 _ _ (0, 0) hz8
        have z1 := cell_of_row w8 w.heap.size 1 _ _ (0, 0) hz8
        have z2 := cell_of_row w8 w.heap.size 2 _ _ (0, 0) hz8
        have z3 := cell_of_row w8 w.heap.size 3 _ _ (0, 0) hz8
        have zf : ∀ j, w8.frozen? ⟨w.heap.size, j, none⟩ = false := fun j => by simp [World.frozen?, hz8]
        have HF := Lib.hid (FIN.out w8 tx mo z (m + 8) (by omega) (by omega) hr8 hG8 hz8)
        clear hy8 hz8 hr8 hG8
        go_wp2
        refine bodyPost_ret (v := .agg #[.string tx, .int .i64 mo, .int .i64 ex, .int .i64 z]) (by simp [results, Try.results36, go_sem, z0, z1, z2, z3]) rfl ?_
        exact HF.out
    · by_cases c2 : v = 2
      · subst c2
        go_upto_region 8 with fail
        obtain ⟨Fr, hFr⟩ : ∃ Fr : (Nat → Value) → Act, Fr = (fun x => { tmps := #[.pointer (some ⟨g, 0, none⟩), undef, .pointer (some ⟨w.heap.size, 0, none⟩), .pointer (some ⟨b3, 0, none⟩), .bool ok, .tuple #[.agg #[.string tx, .int .i64 mo, .int .i64 ex, .int .i64 sg], .bool ok], .pointer (some ⟨g, 0, none⟩), .agg #[.int .i64 one, .int .i64 two, .int .i64 exp], .pointer (some ⟨g, 0, none⟩), .string s, .tuple #[.agg #[.string tx, .int .i64 mo, .int .i64 ex, .int .i64 sg], .bool ok], .agg #[.string tx, .int .i64 mo, .int .i64 ex, .int .i64 sg], .bool ok, .pointer (some ⟨g, 0, none⟩), .int .i64 2, .bool false, .bool false, undef, .bool false, .bool false, undef, undef, undef, undef, undef, undef, undef, undef, undef, .bool true, .bool true, x 0, x 1, x 2, x 3, x 4, undef, undef], defers := [] }) := ⟨_, rfl⟩
        refine pick_prefix (n := 5) (Nat.le_of_ble_eq_true (by kernel_rfl)) W g (m + 7) [(2, 1)] Fr
          (QSgD w7.heap.size g) (by kernel_rfl) (fun _ => undef) (by rw [hFr] <;> rfl) hr7 QSgD_mono ?_ ?_
        · intro i o f x wx hi ho hf hp hG hQ K hK
          subst hFr
          have hB : w7.heap.size ≤ wx.heap.size := hG.gr.size
          have hcost := cost_all [(2, 1)] f
          have hca : costAll [(2, 1)] = 1 := rfl
          obtain rfl | rfl | rfl | rfl | rfl : i = 0 ∨ i = 1 ∨ i = 2 ∨ i = 3 ∨ i = 4 := by omega
          · simp at ho
            subst ho
            rw [if_pos (by rfl)]
            go_simp
            have key := hK (.slice (some ⟨wx.heap.size, 0, none⟩) 4 4) (wx.alloc (.cells #[.int .i64 99, .int .i64 0, .int .i64 1000001, .int .i64 3233] 3)) (IntLit.new rfl (intRow_cons (by omega) (by omega) (intRow_cons (by omega) (by omega) (intRow_cons (by omega) (by omega) (intRow_cons (by omega) (by omega) (intRow_nil))))) hB hG.lt) (grown_alloc _ _ _) (hG.alloc _ 0)
            simp [setX] at key
            exact key
          · simp at ho
            subst ho
            rw [if_pos (by rfl)]
            go_simp
            have key := hK _ _ rfl (grown_refl _ _) (hG.step 1)
            simp [setX] at key
            exact key
          · simp at ho
            subst ho
            have p1 : f 1 = true := hp { on := 1, ground := .data } (by simp) rfl
            have q1 := hQ 1 (by omega) p1
            have q1 : x 1 = .pointer (some ⟨g, 0, none⟩) := q1
            rw [if_pos (by rfl)]
            go_simp
            refine (pick_any W _ g (m + 7 + costF [(2, 1)] f) 4 hG.rd' (by omega)).mono ?_
            rintro e w' ⟨v, v0, v1, _, rfl, hr', hg'⟩
            have key := hK _ _ ⟨v, rfl, v0, by have := v1 (by omega); omega⟩ hg' (hG.call (i := 2) (c := 1) (by simp) hf hr' hg')
            simp [setX, q1] at key
            exact key
          · simp at ho
            subst ho
            have p0 : f 0 = true := hp { on := 0, ground := .data } (by simp) rfl
            have q0 := hQ 0 (by omega) p0
            have p2 : f 2 = true := hp { on := 2, ground := .data } (by simp) rfl
            have q2 := hQ 2 (by omega) p2
            obtain ⟨z2, h2, l2, m2⟩ := q2
            obtain ⟨b, hb, hs⟩ := IntLit.at q0 (z := z2) (by omega) (by omega)
            have hiz : (z2 : Int) < 4 := by omega
            have hi0 : (0 : Int) ≤ z2 := by omega
            rw [if_pos (by rfl)]
            go_simp
            have key := hK _ _ hs (grown_refl _ _) (hG.step 3)
            simp [setX, h2, hb] at key
            exact key
          · simp at ho
            subst ho
            have p3 : f 3 = true := hp { on := 3, ground := .data } (by simp) rfl
            have q3 := hQ 3 (by omega) p3
            obtain ⟨b, jj, s, hx, _, _, hc, hs, ht⟩ := q3
            rw [if_pos (by rfl)]
            go_simp
            have key := hK _ _ ⟨s, rfl, hs, ht⟩ (grown_refl _ _) (hG.step 4)
            simp [setX, hx] at key
            exact key
        · intro x w9 hr9 hg9 hQ
          subst hFr
          obtain ⟨z4, h4, l4, m4⟩ : IntIn 0 1000001 (x 4) := hQ 4 (by omega)
          clear hQ
          simp only [List.drop_succ_cons, List.drop_zero]
          have hy9 := (hg9.block b3 (Array.getElem?_eq_some_iff.1 hy7).1 (by intro e; injection e; omega)).trans hy7
          have hz9 := (hg9.block w.heap.size (Array.getElem?_eq_some_iff.1 hz7).1 (by intro e; injection e; omega)).trans hz7
          rw [h4]
          obtain ⟨wS, hwS⟩ : ∃ wS, w9.setCell ⟨b3, 1, none⟩ (.int .i64 z4) = wS := ⟨_, rfl⟩
          have hyS : wS.heap[b3]? = some (.cells #[.string tx, .int .i64 z4, .int .i64 ex, .int .i64 sg] 28 (0, 0)) := by rw [← hwS]; exact heap_setCell_same w9 b3 1 _ _ _ hy9
          have hzS : wS.heap[w.heap.size]? = some (.cells #[.string ⟨#[]⟩, .int .i64 0, .int .i64 0, .int .i64 0] 28 (0, 0)) := by rw [← hwS, Below.heap_setCell w9 ⟨b3, 1, none⟩ _ w.heap.size (by intro e; exact hbne2 e)]; exact hz9
          have hrS : Rd W wS g (m + 8) := by rw [← hwS]; exact hr9.grown (only_setCell' w9 b3 1 _) (by intro e; injection e; omega) (by intro k hk; injection hk; omega)
          have hgS : w.grownBy wS (some g) := by rw [← hwS]; exact gs_set (grown_trans hG7 hg9) (by omega) 1 _
          have y1 := cell_of_row w9 b3 1 _ _ (0, 0) hy9
          have f0 : ∀ j, w9.frozen? ⟨b3, j, none⟩ = false := fun j => by simp [World.frozen?, hy9]
          clear hy7 hz7 hr7 hG7 hg9 hr9 hy9 hz9
          have x0 := cell_of_row wS b3 0 _ _ (0, 0) hyS
          have x1 := cell_of_row wS b3 1 _ _ (0, 0) hyS
          have x2 := cell_of_row wS b3 2 _ _ (0, 0) hyS
          have x3 := cell_of_row wS b3 3 _ _ (0, 0) hyS
          have z0 := cell_of_row wS w.heap.size 0 _ _ (0, 0) hzS
          have z1 := cell_of_row wS w.heap.size 1 _ _ (0, 0) hzS
          have z2 := cell_of_row wS w.heap.size 2 _ _ (0, 0) hzS
          have z3 := cell_of_row wS w.heap.size 3 _ _ (0, 0) hzS
          have zf : ∀ j, wS.frozen? ⟨w.heap.size, j, none⟩ = false := fun j => by simp [World.frozen?, hzS]
          have HF := Lib.hid (FIN.out wS tx z4 sg (m + 8) (by omega) (by omega) hrS hgS hzS)
          clear hyS hzS hrS hgS
          go_wp2
          refine bodyPost_ret (v := .agg #[.string tx, .int .i64 z4, .int .i64 ex, .int .i64 sg]) (by simp [results, Try.results36, go_sem, z0, z1, z2, z3]) rfl ?_
          exact HF.out
      · have t0 : (v == 0) = false := by rw [beq_eq_false_iff_ne]; exact c0
        have t1 : (v == 1) = false := by rw [beq_eq_false_iff_ne]; exact c1
        have t2 : (v == 2) = false := by rw [beq_eq_false_iff_ne]; exact c2
        have x0 := cell_of_row w7 b3 0 _ _ (0, 0) hy7
        have x1 := cell_of_row w7 b3 1 _ _ (0, 0) hy7
        have x2 := cell_of_row w7 b3 2 _ _ (0, 0) hy7
        have x3 := cell_of_row w7 b3 3 _ _ (0, 0) hy7
        have z0 := cell_of_row w7 w.heap.size 0 _ _ (0, 0) hz7
        have z1 := cell_of_row w7 w.heap.size 1 _ _ (0, 0) hz7
        have z2 := cell_of_row w7 w.heap.size 2 _ _ (0, 0) hz7
        have z3 := cell_of_row w7 w.heap.size 3 _ _ (0, 0) hz7
        have zf : ∀ j, w7.frozen? ⟨w.heap.size, j, none⟩ = false := fun j => by simp [World.frozen?, hz7]
        have HF := Lib.hid (FIN.out w7 tx mo sg (m + 7) (by omega) (by omega) hr7 hG7 hz7)
        clear hy7 hz7 hr7 hG7
        go_wp2
        refine bodyPost_ret (v := .agg #[.string tx, .int .i64 mo, .int .i64 ex, .int .i64 sg]) (by simp [results, Try.results36, go_sem, z0, z1, z2, z3]) rfl ?_
        exact HF.out
def DrawnSg (w : World) (e : Ending) (w' : World) : Prop := ∃ y : Sg, e = .returned (aggSg y) ∧ y.text.size ≤ 100 ∧ Below w.heap.size w w'
set_option maxRecDepth 100000 in
set_option maxHeartbeats 1000000 in
theorem drawSgR_any (w : World) (A : Option Addr) (n c : Nat) (h : CodeArg w A n c) : Calls Try.prog 14 #[.slice A n c] w (DrawnSg w) := by
  obtain ⟨w1, hw1⟩ : ∃ w1, w.alloc (.cells #[.string ⟨#[]⟩, .int .i64 0, .int .i64 0, .int .i64 0] 28) = w1 := ⟨_, rfl⟩
  have hb1 : Below w.heap.size w w1 := by rw [← hw1]; exact (Below.refl _ _).alloc (Nat.le_refl _) _
  have h1 := codeArg_below h hb1
  have hres := Lib.hid (fun wX (hX : Below w1.heap.size w1 wX) => row4 hw1 hX)
  have hfr := Lib.hid (fun wX (hX : Below w1.heap.size w1 wX) => frzG hw1 hX)
  have hrf : Hid (w.heap.size ≤ w.heap.size) := Lib.hid (Nat.le_refl _)
  go_enter Try.func14, Try.ntmps14
  go_wp2_with (go_at_call 25; refine (open_any w1 A n c h1).mono ?_; rintro e w2 ⟨rfl, hr2⟩)
  have hw1 := Lib.hid hw1
  refine (sg_draw w1 w2 w1.heap.size 0 hr2 (by omega)).mono ?_
  rintro e w3 ⟨⟨text, modulus, exp, sig⟩, rfl, hsh, hr3, hg3⟩
  simp only [aggSg]
  have hb3 := hr3.bel
  obtain ⟨c0, c1, c2, c3⟩ := hres.out w3 hb3
  have cf := hfr.out w3 hb3
  have HW := Lib.hid (below_trans' hb1 hb3)
  clear hb3 hr3 hg3 hr2
  go_wp2
  refine bodyPost_ret (v := .agg #[.string text, .int .i64 modulus, .int .i64 exp, .int .i64 sig]) (by simp [results, Try.results14, go_sem, c0, c1, c2, c3]) rfl ⟨⟨text, modulus, exp, sig⟩, rfl, hsh, ?_⟩
  repeat (first | with_reducible exact HW.out | with_reducible refine Below.setCell ?_ hrf.out _)
def DrawnKyS (w : World) (e : Ending) (w' : World) : Prop := ∃ (y : Ky) (s : ByteArray), e = .returned (.tuple #[aggKy y, .string s]) ∧ s.size ≤ 81 ∧ Below w.heap.size w w'
set_option maxRecDepth 100000 in
set_option maxHeartbeats 4000000 in
theorem drawSgT_any (w : World) (A : Option Addr) (n c : Nat) (h : CodeArg w A n c) : Calls Try.prog 9 #[.slice A n c] w (DrawnKyS w) := by
  obtain ⟨w1, hw1⟩ : ∃ w1, w.alloc (.cells #[.int .i64 0, .int .i64 0, .int .i64 0] 24) = w1 := ⟨_, rfl⟩
  have hb1 : Below w.heap.size w w1 := by rw [← hw1]; exact (Below.refl _ _).alloc (Nat.le_refl _) _
  have h1 := codeArg_below h hb1
  have hres := Lib.hid (fun wX (hX : Below w1.heap.size w1 wX) => row3 hw1 hX)
  have hfr := Lib.hid (fun wX (hX : Below w1.heap.size w1 wX) => frzG hw1 hX)
  have hrf : Hid (w.heap.size ≤ w.heap.size) := Lib.hid (Nat.le_refl _)
  go_enter Try.func9, Try.ntmps9
  go_wp2_with (go_at_call 25; refine (open_any w1 A n c h1).mono ?_; rintro e w2 ⟨rfl, hr2⟩)
  have hw1 := Lib.hid hw1
  refine (ky_draw w1 w2 w1.heap.size 0 9 hr2 (by omega) (by omega) (by omega)).mono ?_
  rintro e w3 ⟨⟨one, two, exp⟩, rfl, hsh, hr3, hg3⟩
  simp only [aggKy]
  obtain ⟨w4, hw4⟩ : ∃ w4, w3.alloc (.cells #[.int .i64 one, .int .i64 two, .int .i64 exp] 24) = w4 := ⟨_, rfl⟩
  have hr4 : Rd w1 w4 w1.heap.size (0 + 4) := by rw [← hw4]; exact hr3.alloc _
  have hrow := Lib.hid (fun wX (hX : Below w4.heap.size w4 wX) => row3 hw4 hX)
  obtain ⟨y0, y1, y2⟩ := hrow.out w4 (Below.refl _ _)
  have hg4 : w3.heap.size < w4.heap.size := by rw [← hw4]; simp
  have hng : ¬ (w3.heap.size = w1.heap.size) := by have := hr3.lt; omega
  have hbk : ∀ (wY wX : World), Below w4.heap.size w4 wY → wY.grownBy wX (some w1.heap.size) → wX.cell? ⟨w3.heap.size, 0, none⟩ = some (.int .i64 one) ∧ wX.cell? ⟨w3.heap.size, 1, none⟩ = some (.int .i64 two) ∧ wX.cell? ⟨w3.heap.size, 2, none⟩ = some (.int .i64 exp) := fun wY wX hY hX => by
    obtain ⟨a0, a1, a2⟩ := hrow.out wY hY
    have hl : w3.heap.size < wY.heap.size := Nat.lt_of_lt_of_le hg4 hY.size
    exact ⟨by rw [kept_cell hX _ 0 hng hl]; exact a0, by rw [kept_cell hX _ 1 hng hl]; exact a1, by rw [kept_cell hX _ 2 hng hl]; exact a2⟩
  have hbk := Lib.hid hbk
  have hcall := Lib.hid (text_draw w1 w4.drew w1.heap.size (0 + 4) 9 hr4.drew (by omega) (by omega) (by omega))
  clear hr2 hr3 hg3 hsh
  go_wp2_with fail
  have hw4 := Lib.hid hw4
  clear hr4
  first | go_region_with (go_at_call 27; ((with_reducible refine hcall.out.mono ?_); rintro e w6 ⟨s, hs, rfl, hr6, hg6⟩; obtain ⟨v0, v1, v2⟩ := hbk.out _ _ (Below.drew (Below.refl _ _)) hg6; have hB6 := hr6.bel; obtain ⟨c0, c1, c2⟩ := hres.out w6 hB6; have cf := hfr.out w6 hB6; have HW := Lib.hid (below_trans' hb1 hB6); have HSZ := Lib.hid hs; clear hg6 hB6 hr6 hs)) | fail
  all_goals
    go_wp2
    refine bodyPost_ret (v := .tuple #[.agg #[.int .i64 one, .int .i64 two, .int .i64 exp], .string s]) (by simp [results, Try.results9, go_sem, c0, c1, c2]) rfl ⟨⟨one, two, exp⟩, s, rfl, HSZ.out, ?_⟩
    repeat (first | with_reducible exact HW.out | with_reducible refine Below.setCell ?_ hrf.out _)
/-- what the operations of the region yield -/
def QSb (g : Nat) (one two exp : Int) (j : Nat) (v : Value) : Prop :=
  match j with
  | 0 => v = .agg #[.int .i64 one, .int .i64 two, .int .i64 exp]
  | 1 => v = .pointer (some ⟨g, 0, none⟩)
  | 2 => StrIs 81 v
  | 3 => ∃ (y : Sg) (ok : Bool), v = .tuple #[aggSg y, .bool ok] ∧ y.text.size ≤ 100
  | 4 => ∃ (y : Sg) (ok : Bool), v = .tuple #[aggSg y, .bool ok] ∧ y.text.size ≤ 100
  | 5 => ∃ y : Sg, v = aggSg y ∧ y.text.size ≤ 100
  | 6 => ∃ ok : Bool, v = .bool ok
  | 9 => ∃ ok : Bool, v = .bool ok
  | _ => False
def rowOf : Value → Array Value
  | .agg cs => cs
  | _ => #[]
def DrawnSgK (w : World) (e : Ending) (w' : World) : Prop := ∃ (y : Sg) (k : Ky), e = .returned (.tuple #[aggSg y, aggKy k]) ∧ y.text.size ≤ 100 ∧ Below w.heap.size w w'
set_option maxRecDepth 100000 in
set_option maxHeartbeats 8000000 in
theorem drawSgB_any (w : World) (A : Option Addr) (n c : Nat) (h : CodeArg w A n c) : Calls Try.prog 18 #[.slice A n c] w (DrawnSgK w) := by
  obtain ⟨w0, hw0⟩ : ∃ w0, w.alloc (.cells #[.string ⟨#[]⟩, .int .i64 0, .int .i64 0, .int .i64 0] 28) = w0 := ⟨_, rfl⟩
  have hb0 : Below w.heap.size w w0 := by rw [← hw0]; exact (Below.refl _ _).alloc (Nat.le_refl _) _
  have hs0 : w.heap.size < w0.heap.size := by rw [← hw0]; simp
  obtain ⟨w1, hw1⟩ : ∃ w1, w0.alloc (.cells #[.int .i64 0, .int .i64 0, .int .i64 0] 24) = w1 := ⟨_, rfl⟩
  have hb1 : Below w0.heap.size w0 w1 := by rw [← hw1]; exact (Below.refl _ _).alloc (Nat.le_refl _) _
  have hs1 : w0.heap.size < w1.heap.size := by rw [← hw1]; simp
  have h1 := codeArg_below h (below_trans' hb0 hb1)
  have hres : ∀ wX, Below w1.heap.size w1 wX → (wX.cell? ⟨w.heap.size, 0, none⟩ = some (.string ⟨#[]⟩) ∧ wX.cell? ⟨w.heap.size, 1, none⟩ = some (.int .i64 0) ∧ wX.cell? ⟨w.heap.size, 2, none⟩ = some (.int .i64 0) ∧ wX.cell? ⟨w.heap.size, 3, none⟩ = some (.int .i64 0)) ∧ (wX.cell? ⟨w0.heap.size, 0, none⟩ = some (.int .i64 0) ∧ wX.cell? ⟨w0.heap.size, 1, none⟩ = some (.int .i64 0) ∧ wX.cell? ⟨w0.heap.size, 2, none⟩ = some (.int .i64 0)) ∧ (∀ j, wX.frozen? ⟨w.heap.size, j, none⟩ = false) ∧ (∀ j, wX.frozen? ⟨w0.heap.size, j, none⟩ = false) ∧ Below w.heap.size w wX := fun wX hX =>
    ⟨row4 hw0 (below_trans' hb1 hX), row3 hw1 hX, frzG hw0 (below_trans' hb1 hX), frzG hw1 hX, below_trans' (below_trans' hb0 hb1) hX⟩
  have hres := Lib.hid hres
  have hrf : Hid (w.heap.size ≤ w.heap.size) := Lib.hid (Nat.le_refl _)
  have hrf0 : Hid (w.heap.size ≤ w0.heap.size) := Lib.hid (by omega)
  have hn1 : ¬ (w0.heap.size = w.heap.size) := by omega
  have hn2 : ¬ (w.heap.size = w0.heap.size) := by omega
  have hs0 := Lib.hid hs0
  have hs1 := Lib.hid hs1
  clear hb0 hb1
  go_enter Try.func18, Try.ntmps18
  go_wp2_with (go_at_call 25; refine (open_any w1 A n c h1).mono ?_; rintro e w2 ⟨rfl, hr2⟩)
  have hw0 := Lib.hid hw0
  have hw1 := Lib.hid hw1
  refine (ky_draw w1 w2 w1.heap.size 0 9 hr2 (by omega) (by omega) (by omega)).mono ?_
  rintro e w3 ⟨⟨one, two, exp⟩, rfl, hsh, hr3, hg3⟩
  simp only [aggKy]
  obtain ⟨w4, hw4⟩ : ∃ w4, w3.alloc (.cells #[.int .i64 one, .int .i64 two, .int .i64 exp] 24) = w4 := ⟨_, rfl⟩
  have hr4 : Rd w1 w4 w1.heap.size (0 + 4) := by rw [← hw4]; exact hr3.alloc _
  have hy4 : w4.heap[w3.heap.size]? = some (.cells #[.int .i64 one, .int .i64 two, .int .i64 exp] 24 (0, 0)) := by rw [← hw4]; exact heap_alloc_new w3 _
  have hng : w3.heap.size ≠ w1.heap.size := by have := hr3.lt; omega
  have hm1 : w.heap.size < w3.heap.size := by have := hr3.lt; have := hs0.out; have := hs1.out; omega
  have hm2 : w0.heap.size < w3.heap.size := by have := hr3.lt; have := hs1.out; omega
  have hm3 : ¬ (w.heap.size = w3.heap.size) := by omega
  have hm4 : ¬ (w0.heap.size = w3.heap.size) := by omega
  have hm5 : ¬ (w3.heap.size = w.heap.size) := by omega
  have hm6 : ¬ (w3.heap.size = w0.heap.size) := by omega
  clear hm1 hm2
  clear hr2 hr3 hg3 hsh
  go_wp2_with fail
  have hw4 := Lib.hid hw4
  refine (pick_any w1 _ w1.heap.size 4 3 hr4 (by omega)).mono ?_
  rintro e w5 ⟨v, v0, v1, _, rfl, hr5, hg5⟩
  have v1 := v1 (by omega)
  have hy5 := (hg5.block w3.heap.size (Array.getElem?_eq_some_iff.1 hy4).1 (by intro e; injection e; omega)).trans hy4
  have hW5 : w1.heap.size ≤ w5.heap.size := hr5.bel.size
  have hkeep : ∀ wX, w5.grownBy wX (some w1.heap.size) → wX.heap[w3.heap.size]? = some (.cells #[.int .i64 one, .int .i64 two, .int .i64 exp] 24 (0, 0)) := fun wX hX =>
    (hX.block w3.heap.size (Array.getElem?_eq_some_iff.1 hy5).1 (by intro e; injection e; omega)).trans hy5
  have hkeep := Lib.hid hkeep
  clear hg5 hr4 hy4
  by_cases hv : 0 < v
  · have d0 : decide (0 < v) = true := decide_eq_true hv
    go_wp2_with fail
    obtain ⟨Fr, hFr⟩ : ∃ Fr : (Nat → Value) → Act, Fr = (fun x => { tmps := #[.slice A n c, undef, .pointer (some ⟨w.heap.size, 0, none⟩), .pointer (some ⟨w0.heap.size, 0, none⟩), .pointer (some ⟨w1.heap.size, 0, none⟩), .pointer (some ⟨w3.heap.size, 0, none⟩), x 7, x 9, .slice A n c, .pointer (some ⟨w1.heap.size, 0, none⟩), .pointer (some ⟨w1.heap.size, 0, none⟩), .agg #[.int .i64 one, .int .i64 two, .int .i64 exp], .pointer (some ⟨w1.heap.size, 0, none⟩), .int .i64 v, .bool true, x 4, x 0, x 1, x 2, x 3, x 5, x 6, undef, undef, undef, undef, undef], defers := [] }) := ⟨_, rfl⟩
    refine var_region (n := 10) (by kernel_rfl) rfl w1 w1.heap.size (0 + 4 + 1) [(2, 2)] Fr (QSb w1.heap.size one two exp) 7 8 5 28 #[.string ⟨#[]⟩, .int .i64 0, .int .i64 0, .int .i64 0] rowOf (by decide) (by decide) (by decide) (by decide) (by decide) (by decide) hW5 (by kernel_rfl) (by kernel_rfl) (by kernel_rfl) (fun _ => undef) (by rw [hFr]) hr5 ?_ ?_ ?_ ?_
    · intro i o f x wx hi hia his ho hf hp hG hQ K hK
      subst hFr
      have hcost := cost_all [(2, 2)] f
      have hca : costAll [(2, 2)] = 2 := rfl
      obtain rfl | rfl | rfl | rfl | rfl | rfl | rfl | rfl : i = 0 ∨ i = 1 ∨ i = 2 ∨ i = 3 ∨ i = 4 ∨ i = 5 ∨ i = 6 ∨ i = 9 := by omega
      · simp at ho
        subst ho
        have hk := hkeep.out _ hG.gr
        have k0 := cell_of_row wx w3.heap.size 0 _ _ (0, 0) hk
        have k1 := cell_of_row wx w3.heap.size 1 _ _ (0, 0) hk
        have k2 := cell_of_row wx w3.heap.size 2 _ _ (0, 0) hk
        rw [if_pos (by rfl)]
        go_simp
        have key := hK _ _ rfl (grown_refl _ _) (hG.step 0)
        simp [setX] at key
        exact key
      · simp at ho
        subst ho
        rw [if_pos (by rfl)]
        go_simp
        have key := hK _ _ rfl (grown_refl _ _) (hG.step 1)
        simp [setX] at key
        exact key
      · simp at ho
        subst ho
        have q1 : x 1 = .pointer (some ⟨w1.heap.size, 0, none⟩) := hQ 1 (by omega) (by omega) (by omega) (edge_on (by kernel_rfl) hp)
        rw [if_pos (by rfl)]
        go_simp
        refine (text_draw w1 _ w1.heap.size (0 + 4 + 1 + costF [(2, 2)] f) 0 hG.rd' (by omega) (by omega) (by omega)).mono ?_
        rintro e w' ⟨s, hs, rfl, hr', hg'⟩
        have key := hK _ _ ⟨s, rfl, hs⟩ hg' (hG.call (i := 2) (c := 2) (by simp) hf hr' hg')
        simp [setX, q1] at key
        exact key
      · simp at ho
        subst ho
        have q0 : x 0 = .agg #[.int .i64 one, .int .i64 two, .int .i64 exp] := hQ 0 (by omega) (by omega) (by omega) (edge_on (by kernel_rfl) hp)
        obtain ⟨s2, h2, l2⟩ := hQ 2 (by omega) (by omega) (by omega) (edge_on (by kernel_rfl) hp)
        have hsm : s2.size ≤ maxLen := by unfold maxLen; omega
        rw [if_pos (by rfl)]
        go_simp
        refine (sgS_text one two exp s2 _ hsm).mono ?_
        rintro e w' ⟨rfl, hb'⟩
        have hrng := sgX_rng ⟨one, two, exp⟩ s2 l2
        have hg' := below_grown hb' (some w1.heap.size)
        have key := hK _ _ ⟨(sgX ⟨one, two, exp⟩ s2).1, (sgX ⟨one, two, exp⟩ s2).2, rfl, Nat.le_trans hrng.1 (by omega)⟩ hg' (by
          obtain ⟨q, hq, hmq⟩ := (hG.step 3).rd
          exact ⟨⟨q, rd_below hq hb', hmq⟩, grown_trans hG.gr hg'⟩)
        simp [setX, q0, h2] at key
        exact key
      · simp at ho
        subst ho
        obtain ⟨y, ok, h3, l3⟩ := hQ 3 (by omega) (by omega) (by omega) (edge_on (by kernel_rfl) hp)
        rw [if_pos (by rfl)]
        go_simp
        have key := hK _ _ ⟨y, ok, rfl, l3⟩ (grown_refl _ _) (hG.step 4)
        simp [setX, h3] at key
        exact key
      · simp at ho
        subst ho
        obtain ⟨y, ok, h4, l4⟩ := hQ 4 (by omega) (by omega) (by omega) (edge_on (by kernel_rfl) hp)
        rw [if_pos (by rfl)]
        go_simp
        have key := hK _ _ ⟨y, rfl, l4⟩ (grown_refl _ _) (hG.step 5)
        simp [setX, h4] at key
        exact key
      · simp at ho
        subst ho
        obtain ⟨y, ok, h4, l4⟩ := hQ 4 (by omega) (by omega) (by omega) (edge_on (by kernel_rfl) hp)
        rw [if_pos (by rfl)]
        go_simp
        have key := hK _ _ ⟨ok, rfl⟩ (grown_refl _ _) (hG.step 6)
        simp [setX, h4] at key
        exact key
      · simp at ho
        subst ho
        obtain ⟨ok, h6⟩ := hQ 6 (by omega) (by omega) (by omega) (edge_on (by kernel_rfl) hp)
        rw [if_pos (by rfl)]
        go_simp
        have key := hK _ _ ⟨ok, rfl⟩ (grown_refl _ _) (hG.step 9)
        simp [setX, h6] at key
        exact key
    · intro o x wx ho K hK
      subst hFr
      simp at ho
      subst ho
      rw [if_pos (by rfl)]
      go_simp
      simp [setX] at hK
      exact hK
    · intro o x wx b ho hq hb hrow K hK
      subst hFr
      simp at ho
      subst ho
      obtain ⟨⟨t, m, u, g⟩, h5, _⟩ := hq
      have c0 := cell_of_row wx b 0 _ _ (0, 0) hrow
      have c1 := cell_of_row wx b 1 _ _ (0, 0) hrow
      have c2 := cell_of_row wx b 2 _ _ (0, 0) hrow
      have c3 := cell_of_row wx b 3 _ _ (0, 0) hrow
      have f0 : ∀ j, wx.frozen? ⟨b, j, none⟩ = false := fun j => by simp [World.frozen?, hrow]
      have g0 := heap_setCell_same wx b 0 _ _ (.string t) hrow
      have g1 := heap_setCell_same _ b 1 _ _ (.int .i64 m) g0
      have g2 := heap_setCell_same _ b 2 _ _ (.int .i64 u) g1
      have g3 := heap_setCell_same _ b 3 _ _ (.int .i64 g) g2
      have GR := Lib.hid g3
      have GB := Lib.hid (grown_trans (grown_trans (grown_trans (only_setCell' wx b 0 (.string t)) (only_setCell' _ b 1 (.int .i64 m))) (only_setCell' _ b 2 (.int .i64 u))) (only_setCell' _ b 3 (.int .i64 g)))
      clear g0 g1 g2 g3 hrow
      simp only [aggSg] at h5
      rw [if_pos (by rfl)]
      go_simp
      have key := hK _ (by rw [h5]; exact GR.out) GB.out
      simp [hb, h5] at key
      exact key
    · intro x w9 b hr9 hg9 hQ hb b1 b2 hrow
      subst hFr
      obtain ⟨⟨t, m, u, g⟩, h5, l5⟩ := hQ 5 (by omega) (by omega) (by omega)
      simp only [aggSg] at h5
      rw [h5] at hrow
      have hrow : w9.heap[b]? = some (.cells #[.string t, .int .i64 m, .int .i64 u, .int .i64 g] 28 (0, 0)) := hrow
      have hk := hkeep.out _ hg9
      have HSZ := Lib.hid l5
      obtain ⟨⟨z0, z1, z2, z3⟩, ⟨y0, y1, y2⟩, zf, yf, hbw⟩ := hres.out w9 hr9.bel
      have HW := Lib.hid hbw
      have x0 := cell_of_row w9 b 0 _ _ (0, 0) hrow
      have x1 := cell_of_row w9 b 1 _ _ (0, 0) hrow
      have x2 := cell_of_row w9 b 2 _ _ (0, 0) hrow
      have x3 := cell_of_row w9 b 3 _ _ (0, 0) hrow
      have k0 := cell_of_row w9 w3.heap.size 0 _ _ (0, 0) hk
      have k1 := cell_of_row w9 w3.heap.size 1 _ _ (0, 0) hk
      have k2 := cell_of_row w9 w3.heap.size 2 _ _ (0, 0) hk
      dsimp only
      rw [hb]
      clear hrow hk hQ hbw
      have e0 := hs0.out
      have e1 := hs1.out
      have n1 : ¬ (b = w.heap.size) := by omega
      have n2 : ¬ (b = w0.heap.size) := by omega
      have n3 : ¬ (w.heap.size = b) := by omega
      have n4 : ¬ (w0.heap.size = b) := by omega
      clear e0 e1
      go_wp2
      go_region
      all_goals
        go_wp2
        refine bodyPost_ret (v := .tuple #[.agg #[.string t, .int .i64 m, .int .i64 u, .int .i64 g], .agg #[.int .i64 one, .int .i64 two, .int .i64 exp]]) (by simp [results, Try.results18, go_sem, z0, z1, z2, z3, y0, y1, y2]) rfl ⟨⟨t, m, u, g⟩, ⟨one, two, exp⟩, rfl, HSZ.out, ?_⟩
        repeat (first | with_reducible exact HW.out | with_reducible refine Below.setCell ?_ hrf.out _ | with_reducible refine Below.setCell ?_ hrf0.out _ | with_reducible refine Below.drew ?_)
  · have d0 : decide (0 < v) = false := decide_eq_false hv
    have hcall := Lib.hid (sg_draw w1 w5.drew w1.heap.size (0 + 4 + 1) hr5.drew (by omega))
    have hgd := Lib.hid (grown_drew w5 (some w1.heap.size))
    have k0 := cell_of_row w5 w3.heap.size 0 _ _ (0, 0) hy5
    have k1 := cell_of_row w5 w3.heap.size 1 _ _ (0, 0) hy5
    have k2 := cell_of_row w5 w3.heap.size 2 _ _ (0, 0) hy5
    clear hr5
    go_wp2_with fail
    first | go_region_with (go_at_call 36; ((with_reducible refine hcall.out.mono ?_); rintro e w6 ⟨⟨t, m, u, g⟩, rfl, hsz, hr6, hg6⟩; simp only [aggSg]; have HSZ := Lib.hid hsz; have hk := hkeep.out _ (grown_trans hgd.out hg6); have v0 := cell_of_row w6 w3.heap.size 0 _ _ (0, 0) hk; have v1 := cell_of_row w6 w3.heap.size 1 _ _ (0, 0) hk; have v2 := cell_of_row w6 w3.heap.size 2 _ _ (0, 0) hk; obtain ⟨⟨z0, z1, z2, z3⟩, ⟨y0, y1, y2⟩, zf, yf, hbw⟩ := hres.out w6 hr6.bel; have HW := Lib.hid hbw; clear hk hbw hg6 hr6 hsz)) | fail
    all_goals
      go_wp2
      refine bodyPost_ret (v := .tuple #[.agg #[.string t, .int .i64 m, .int .i64 u, .int .i64 g], .agg #[.int .i64 one, .int .i64 two, .int .i64 exp]]) (by simp [results, Try.results18, go_sem, z0, z1, z2, z3, y0, y1, y2]) rfl ⟨⟨t, m, u, g⟩, ⟨one, two, exp⟩, rfl, HSZ.out, ?_⟩
      repeat (first | with_reducible exact HW.out | with_reducible refine Below.setCell ?_ hrf.out _ | with_reducible refine Below.setCell ?_ hrf0.out _ | with_reducible refine Below.drew ?_)
end Go.Proofs.Ythniiknhbhoncaa
