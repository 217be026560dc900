/-
  The verifier's own text: DAy DAy2 DUn.
-/
import Derived.Test.YthgjhonnibghlaaRows
import Derived.Test.YthgjhonnibghlaaGs
import Derived.Test.YthgjhonnibghlaaHB
import Derived.Test.YthgjhonnibghlaaHG
import Derived.Test.YthgjhonnibghlaaHA
import Derived.Test.YthgjhonnibghlaaHH
import Derived.WalkKit
import Derived.ProofKit
import Derived.Below
import Derived.Lib.Hide
import Derived.Outline
import Derived.BigQuiet
import Derived.Deep.QuietTactic
import Derived.Deep.Draws
import Derived.Laws.OwnMore
import Derived.Laws.Rows
import Derived.WalkSpells
import Derived.Deep.RegionWith
namespace Go.Proofs.Ythgjhonnibghlaa
open Go.RowKit
set_option linter.unusedVariables false
/-- an activity that was drawn, and the reader -/
def DrewAy (W w : World) (g m : Nat) (e : Ending) (w' : World) : Prop := ∃ y : Ay, e = .returned (aggAy y) ∧ ShAy y ∧ Rd W w' g m ∧ w.grownBy w' (some g)
/-- a store into new memory -/
theorem gs_setY {a w : World} {row : Option Nat} (h : a.grownBy w row) {b : Nat} (hb : a.heap.size ≤ b) (j : Nat) (u : Value) : a.grownBy (w.setCell ⟨b, j, none⟩ u) row :=
  ⟨h.os, h.tape, h.output, Nat.le_trans h.size (by simp [World.setCell]), fun k hk hne => (Below.heap_setCell w ⟨b, j, none⟩ u k (by intro e; have : k = b := e; omega)).trans (h.block k hk hne)⟩
theorem handA_draw (W w : World) (g m : Nat) (n : Int) (h : Rd W w g m) (hm : m ≤ 700000) (hn1 : -1000000 ≤ n) (hn2 : n ≤ 1000000) :
    Calls Try.prog 56 #[.pointer (some ⟨g, 0, none⟩), .int .i64 n] w (fun e w' => ∃ y : Hn, e = .returned (aggHn y) ∧ ShHn y ∧ Rd W w' g (m + 6) ∧ w.grownBy w' (some g)) :=
  (hand_draw W w g m n h hm hn1 hn2).mono fun e w' ⟨s0, s1, he, l0, l1, hr, hg⟩ => ⟨⟨s0, s1⟩, he, ⟨by show s0.size ≤ 100; omega, by show s1.size ≤ 100; omega⟩, hr, hg⟩
theorem lit_ays (j : Nat) (h : j < 5) : ∃ y : Ay, ShAy y ∧ (#[Value.int .i64 (0), .int .i64 (0), .string ⟨#[]⟩, .string ⟨#[]⟩, .string ⟨#[]⟩, .int .i64 (-1), .int .i64 (0), .string ⟨#[97]⟩, .string ⟨#[98]⟩, .string ⟨#[99]⟩, .int .i64 (6), .int .i64 (0), .string ⟨#[97]⟩, .string ⟨#[98]⟩, .string ⟨#[99]⟩, .int .i64 (0), .int .i64 (0), .string ⟨#[97]⟩, .string ⟨#[98]⟩, .string ⟨#[]⟩, .int .i64 (0), .int .i64 (-1), .string ⟨#[97]⟩, .string ⟨#[98]⟩, .string ⟨#[99]⟩] : Array Value)[j * 5]? = some (.int .i64 y.kind) ∧
    (#[Value.int .i64 (0), .int .i64 (0), .string ⟨#[]⟩, .string ⟨#[]⟩, .string ⟨#[]⟩, .int .i64 (-1), .int .i64 (0), .string ⟨#[97]⟩, .string ⟨#[98]⟩, .string ⟨#[99]⟩, .int .i64 (6), .int .i64 (0), .string ⟨#[97]⟩, .string ⟨#[98]⟩, .string ⟨#[99]⟩, .int .i64 (0), .int .i64 (0), .string ⟨#[97]⟩, .string ⟨#[98]⟩, .string ⟨#[]⟩, .int .i64 (0), .int .i64 (-1), .string ⟨#[97]⟩, .string ⟨#[98]⟩, .string ⟨#[99]⟩] : Array Value)[j * 5 + 1]? = some (.int .i64 y.num) ∧
    (#[Value.int .i64 (0), .int .i64 (0), .string ⟨#[]⟩, .string ⟨#[]⟩, .string ⟨#[]⟩, .int .i64 (-1), .int .i64 (0), .string ⟨#[97]⟩, .string ⟨#[98]⟩, .string ⟨#[99]⟩, .int .i64 (6), .int .i64 (0), .string ⟨#[97]⟩, .string ⟨#[98]⟩, .string ⟨#[99]⟩, .int .i64 (0), .int .i64 (0), .string ⟨#[97]⟩, .string ⟨#[98]⟩, .string ⟨#[]⟩, .int .i64 (0), .int .i64 (-1), .string ⟨#[97]⟩, .string ⟨#[98]⟩, .string ⟨#[99]⟩] : Array Value)[j * 5 + 2]? = some (.string y.who.name) ∧
    (#[Value.int .i64 (0), .int .i64 (0), .string ⟨#[]⟩, .string ⟨#[]⟩, .string ⟨#[]⟩, .int .i64 (-1), .int .i64 (0), .string ⟨#[97]⟩, .string ⟨#[98]⟩, .string ⟨#[99]⟩, .int .i64 (6), .int .i64 (0), .string ⟨#[97]⟩, .string ⟨#[98]⟩, .string ⟨#[99]⟩, .int .i64 (0), .int .i64 (0), .string ⟨#[97]⟩, .string ⟨#[98]⟩, .string ⟨#[]⟩, .int .i64 (0), .int .i64 (-1), .string ⟨#[97]⟩, .string ⟨#[98]⟩, .string ⟨#[99]⟩] : Array Value)[j * 5 + 3]? = some (.string y.who.host) ∧
    (#[Value.int .i64 (0), .int .i64 (0), .string ⟨#[]⟩, .string ⟨#[]⟩, .string ⟨#[]⟩, .int .i64 (-1), .int .i64 (0), .string ⟨#[97]⟩, .string ⟨#[98]⟩, .string ⟨#[99]⟩, .int .i64 (6), .int .i64 (0), .string ⟨#[97]⟩, .string ⟨#[98]⟩, .string ⟨#[99]⟩, .int .i64 (0), .int .i64 (0), .string ⟨#[97]⟩, .string ⟨#[98]⟩, .string ⟨#[]⟩, .int .i64 (0), .int .i64 (-1), .string ⟨#[97]⟩, .string ⟨#[98]⟩, .string ⟨#[99]⟩] : Array Value)[j * 5 + 4]? = some (.string y.what) := by
  obtain rfl | rfl | rfl | rfl | rfl : j = 0 ∨ j = 1 ∨ j = 2 ∨ j = 3 ∨ j = 4 := by omega
  · exact ⟨⟨0, 0, ⟨⟨#[]⟩, ⟨#[]⟩⟩, ⟨#[]⟩⟩, ⟨by unfold ShI; decide, by unfold ShI; decide, ⟨by unfold ShS; decide, by unfold ShS; decide⟩, by unfold ShS; decide⟩, rfl, rfl, rfl, rfl, rfl⟩
  · exact ⟨⟨-1, 0, ⟨⟨#[97]⟩, ⟨#[98]⟩⟩, ⟨#[99]⟩⟩, ⟨by unfold ShI; decide, by unfold ShI; decide, ⟨by unfold ShS; decide, by unfold ShS; decide⟩, by unfold ShS; decide⟩, rfl, rfl, rfl, rfl, rfl⟩
  · exact ⟨⟨6, 0, ⟨⟨#[97]⟩, ⟨#[98]⟩⟩, ⟨#[99]⟩⟩, ⟨by unfold ShI; decide, by unfold ShI; decide, ⟨by unfold ShS; decide, by unfold ShS; decide⟩, by unfold ShS; decide⟩, rfl, rfl, rfl, rfl, rfl⟩
  · exact ⟨⟨0, 0, ⟨⟨#[97]⟩, ⟨#[98]⟩⟩, ⟨#[]⟩⟩, ⟨by unfold ShI; decide, by unfold ShI; decide, ⟨by unfold ShS; decide, by unfold ShS; decide⟩, by unfold ShS; decide⟩, rfl, rfl, rfl, rfl, rfl⟩
  · exact ⟨⟨0, -1, ⟨⟨#[97]⟩, ⟨#[98]⟩⟩, ⟨#[99]⟩⟩, ⟨by unfold ShI; decide, by unfold ShI; decide, ⟨by unfold ShS; decide, by unfold ShS; decide⟩, by unfold ShS; decide⟩, rfl, rfl, rfl, rfl, rfl⟩
theorem lit_k (j : Nat) (h : j < 3) : ∃ s : ByteArray, ShS s ∧ (#[Value.string ⟨#[107, 49]⟩, .string ⟨#[107, 50]⟩, .string ⟨#[107, 51]⟩] : Array Value)[j]? = some (.string s) := by
  obtain rfl | rfl | rfl : j = 0 ∨ j = 1 ∨ j = 2 := by omega
  · exact ⟨_, by unfold ShS; decide, rfl⟩
  · exact ⟨_, by unfold ShS; decide, rfl⟩
  · exact ⟨_, by unfold ShS; decide, rfl⟩
set_option maxRecDepth 100000 in
set_option maxHeartbeats 8000000 in
theorem ay_draw (W w : World) (g m : Nat) (n : Int) (h : Rd W w g m) (hm : m ≤ 600000) (hn1 : -1000000 ≤ n) (hn2 : n ≤ 1000000) :
    Calls Try.prog 29 #[.pointer (some ⟨g, 0, none⟩), .int .i64 n] w (DrewAy W w g (m + 10)) := by
  have hlt := h.lt
  have hlo := h.lo
  have hWw : W.heap.size ≤ w.heap.size := h.bel.size
  obtain ⟨w1, hw1⟩ : ∃ w1, w.alloc (.cells #[.int .i64 0, .int .i64 0, .string ⟨#[]⟩, .string ⟨#[]⟩, .string ⟨#[]⟩] 26) = w1 := ⟨_, rfl⟩
  have hr1 : Rd W w1 g m := by rw [← hw1]; exact h.alloc _
  have hz1 : w1.heap[w.heap.size]? = some (.cells #[.int .i64 0, .int .i64 0, .string ⟨#[]⟩, .string ⟨#[]⟩, .string ⟨#[]⟩] 26 (0, 0)) := by rw [← hw1]; exact heap_alloc_new w _
  have hgw0 : w.grownBy w1 (some g) := by rw [← hw1]; exact grown_alloc w _ _
  have hs0 : w.heap.size < w1.heap.size := by rw [← hw1]; simp
  go_enter Try.func29, Try.ntmps29
  go_wp2_with fail
  have hw1 := Lib.hid hw1
  refine (odd_any W _ g m n hr1 (by omega) hn1 hn2).mono ?_
  rintro e wo ⟨b, rfl, hr2, hg2⟩
  have hz2 : wo.heap[w.heap.size]? = some (.cells #[.int .i64 0, .int .i64 0, .string ⟨#[]⟩, .string ⟨#[]⟩, .string ⟨#[]⟩] 26 (0, 0)) := (hg2.block w.heap.size hs0 (by intro e; injection e; omega)).trans hz1
  have hgw1 : w.grownBy wo (some g) := grown_trans hgw0 hg2
  have hs1 : w.heap.size < wo.heap.size := Nat.lt_of_lt_of_le hs0 hg2.size
  clear hg2
  cases b with
  | true =>
    have hlt2 := hr2.lt
    go_wp2_with fail
    refine (pick_any W _ g (m + 1) 5 (hr2.alloc _) (by omega)).mono ?_
    rintro e w3 ⟨v, v0, v1, _, rfl, hr3, hg3⟩
    have v1 := v1 (by omega)
    have k0 := fun i => cell_kept hg3 hlt2 i
    have hz3 := (hg3.block w.heap.size (by simp; omega) (by intro e; injection e; omega)).trans ((Below.heap_alloc wo _ w.heap.size hs1).trans hz2)
    have hgw3 : w.grownBy w3 (some g) := grown_trans hgw1 (grown_trans (grown_alloc wo _ _) hg3)
    obtain ⟨j, rfl⟩ : ∃ j : Nat, v = j := ⟨v.toNat, by omega⟩
    have hj : j < 5 := by omega
    obtain ⟨⟨kind, num, ⟨na, ho⟩, what⟩, hsh, e0, e1, e2, e3, e4⟩ := lit_ays j hj
    have d0 := (k0 (j * 5)).trans e0
    have d1 := (k0 (j * 5 + 1)).trans e1
    have d2 := (k0 (j * 5 + 2)).trans e2
    have d3 := (k0 (j * 5 + 3)).trans e3
    have d4 := (k0 (j * 5 + 4)).trans e4
    simp only at d0 d1 d2 d3 d4
    have hj0 : (0 : Int) ≤ (j : Int) := by omega
    have hj4 : (j : Int) < 5 := by omega
    have c0 := cell_of_row w3 w.heap.size 0 _ _ (0, 0) hz3
    have c1 := cell_of_row w3 w.heap.size 1 _ _ (0, 0) hz3
    have c2 := cell_of_row w3 w.heap.size 2 _ _ (0, 0) hz3
    have c3 := cell_of_row w3 w.heap.size 3 _ _ (0, 0) hz3
    have c4 := cell_of_row w3 w.heap.size 4 _ _ (0, 0) hz3
    have f0 : ∀ j, w3.frozen? ⟨w.heap.size, j, none⟩ = false := fun j => by simp [World.frozen?, hz3]
    have HSH := Lib.hid hsh
    have HR := Lib.hid (((((hr3.grown (only_setCell' w3 w.heap.size 0 (.int .i64 kind)) (by intro e; injection e; omega) (by intro k hk; injection hk; omega)).grown (only_setCell' _ w.heap.size 1 (.int .i64 num)) (by intro e; injection e; omega) (by intro k hk; injection hk; omega)).grown (only_setCell' _ w.heap.size 2 (.string na)) (by intro e; injection e; omega) (by intro k hk; injection hk; omega)).grown (only_setCell' _ w.heap.size 3 (.string ho)) (by intro e; injection e; omega) (by intro k hk; injection hk; omega)).grown (only_setCell' _ w.heap.size 4 (.string what)) (by intro e; injection e; omega) (by intro k hk; injection hk; omega))
    have HG := Lib.hid (gs_setY (gs_setY (gs_setY (gs_setY (gs_setY hgw3 (Nat.le_refl w.heap.size) 0 (.int .i64 kind)) (Nat.le_refl w.heap.size) 1 (.int .i64 num)) (Nat.le_refl w.heap.size) 2 (.string na)) (Nat.le_refl w.heap.size) 3 (.string ho)) (Nat.le_refl w.heap.size) 4 (.string what))
    clear k0 hg3 hr3 hgw3 e0 e1 e2 e3 e4 hsh hr2 hz2 hz1 hr1 hgw1 hgw0 hz3
    go_wp2
    refine bodyPost_ret (v := .agg #[.int .i64 kind, .int .i64 num, .string na, .string ho, .string what]) (by simp [results, Try.results29, go_sem, c0, c1, c2, c3, c4]) rfl ⟨⟨kind, num, ⟨na, ho⟩, what⟩, rfl, HSH.out, HR.out.more (by omega), HG.out⟩
  | false =>
    go_wp2_with fail
    refine (pick_any W _ g (m + 1) 6 hr2 (by omega)).mono ?_
    rintro e w4 ⟨v1, p0, p1, _, rfl, hr4, hg4⟩
    have p1 := p1 (by omega)
    have hz4 := (hg4.block w.heap.size hs1 (by intro e; injection e; omega)).trans hz2
    have hgw4 : w.grownBy w4 (some g) := grown_trans hgw1 hg4
    have hs4 : w.heap.size < w4.heap.size := Nat.lt_of_lt_of_le hs1 hg4.size
    go_wp2_with fail
    refine (pick_any W _ g (m + 1 + 1) 12 hr4 (by omega)).mono ?_
    rintro e w5 ⟨v2, q0, q1, _, rfl, hr5, hg5⟩
    have q1 := q1 (by omega)
    have hz5 := (hg5.block w.heap.size hs4 (by intro e; injection e; omega)).trans hz4
    have hgw5 : w.grownBy w5 (some g) := grown_trans hgw4 hg5
    have hs5 : w.heap.size < w5.heap.size := Nat.lt_of_lt_of_le hs4 hg5.size
    go_wp2_with fail
    refine (handA_draw W _ g (m + 1 + 1 + 1) 0 hr5 (by omega) (by omega) (by omega)).mono ?_
    rintro e w6 ⟨⟨na, ho⟩, rfl, hsy, hr6, hg6⟩
    have hz6 := (hg6.block w.heap.size hs5 (by intro e; injection e; omega)).trans hz5
    have hgw6 : w.grownBy w6 (some g) := grown_trans hgw5 hg6
    have hs6 : w.heap.size < w6.heap.size := Nat.lt_of_lt_of_le hs5 hg6.size
    have hlt6 := hr6.lt
    simp only [aggHn]
    go_wp2_with fail
    refine (pick_any W _ g (m + 1 + 1 + 1 + 6) 3 (hr6.alloc _) (by omega)).mono ?_
    rintro e w3 ⟨v, v0, v1', _, rfl, hr3, hg3⟩
    have v1' := v1' (by omega)
    have k0 := fun i => cell_kept hg3 hlt6 i
    have hz3 := (hg3.block w.heap.size (by simp; omega) (by intro e; injection e; omega)).trans ((Below.heap_alloc w6 _ w.heap.size hs6).trans hz6)
    have hgw3 : w.grownBy w3 (some g) := grown_trans hgw6 (grown_trans (grown_alloc w6 _ _) hg3)
    obtain ⟨j, rfl⟩ : ∃ j : Nat, v = j := ⟨v.toNat, by omega⟩
    have hj : j < 3 := by omega
    obtain ⟨what, hsw, e0⟩ := lit_k j hj
    have d0 := (k0 j).trans e0
    have hj0 : (0 : Int) ≤ (j : Int) := by omega
    have hj4 : (j : Int) < 3 := by omega
    obtain ⟨kind, hkind⟩ : ∃ kind, v1 = kind := ⟨_, rfl⟩
    obtain ⟨num, hnum⟩ : ∃ num, v2 = num := ⟨_, rfl⟩
    subst hkind
    subst hnum
    have hsh : ShAy ⟨v1, v2, ⟨na, ho⟩, what⟩ := ⟨⟨by show _ ≤ v1; omega, by show v1 ≤ _; omega⟩, ⟨by show _ ≤ v2; omega, by show v2 ≤ _; omega⟩, hsy, hsw⟩
    have c0 := cell_of_row w3 w.heap.size 0 _ _ (0, 0) hz3
    have c1 := cell_of_row w3 w.heap.size 1 _ _ (0, 0) hz3
    have c2 := cell_of_row w3 w.heap.size 2 _ _ (0, 0) hz3
    have c3 := cell_of_row w3 w.heap.size 3 _ _ (0, 0) hz3
    have c4 := cell_of_row w3 w.heap.size 4 _ _ (0, 0) hz3
    have f0 : ∀ j, w3.frozen? ⟨w.heap.size, j, none⟩ = false := fun j => by simp [World.frozen?, hz3]
    have HSH := Lib.hid hsh
    have HR := Lib.hid (((((hr3.grown (only_setCell' w3 w.heap.size 0 (.int .i64 v1)) (by intro e; injection e; omega) (by intro k hk; injection hk; omega)).grown (only_setCell' _ w.heap.size 1 (.int .i64 v2)) (by intro e; injection e; omega) (by intro k hk; injection hk; omega)).grown (only_setCell' _ w.heap.size 2 (.string na)) (by intro e; injection e; omega) (by intro k hk; injection hk; omega)).grown (only_setCell' _ w.heap.size 3 (.string ho)) (by intro e; injection e; omega) (by intro k hk; injection hk; omega)).grown (only_setCell' _ w.heap.size 4 (.string what)) (by intro e; injection e; omega) (by intro k hk; injection hk; omega))
    have HG := Lib.hid (gs_setY (gs_setY (gs_setY (gs_setY (gs_setY hgw3 (Nat.le_refl w.heap.size) 0 (.int .i64 v1)) (Nat.le_refl w.heap.size) 1 (.int .i64 v2)) (Nat.le_refl w.heap.size) 2 (.string na)) (Nat.le_refl w.heap.size) 3 (.string ho)) (Nat.le_refl w.heap.size) 4 (.string what))
    clear k0 hg3 hr3 hgw3 e0 hsh hr2 hz2 hz1 hr1 hgw1 hgw0 hz3 hz4 hz5 hz6 hgw4 hgw5 hgw6 hg4 hg5 hg6 hr4 hr5 hr6
    go_wp2
    refine bodyPost_ret (v := .agg #[.int .i64 v1, .int .i64 v2, .string na, .string ho, .string what]) (by simp [results, Try.results29, go_sem, c0, c1, c2, c3, c4]) rfl ⟨⟨v1, v2, ⟨na, ho⟩, what⟩, rfl, HSH.out, HR.out.more (by omega), HG.out⟩
def DrawnAy (w : World) (e : Ending) (w' : World) : Prop := ∃ y : Ay, e = .returned (aggAy y) ∧ ShAy y ∧ Below w.heap.size w w'
theorem frzY {w w1 wX : World} {cs : Array Value} {T : TypeId} (hw : w.alloc (.cells cs T) = w1) (hB : Below w1.heap.size w1 wX) : ∀ j, wX.frozen? ⟨w.heap.size, j, none⟩ = false := fun j => by
  subst hw
  have hX := (hB.block w.heap.size (by simp)).trans (heap_alloc_new w (.cells cs T))
  simp [World.frozen?, hX]
set_option maxRecDepth 100000 in
set_option maxHeartbeats 1000000 in
theorem drawAyV_any (w : World) (A : Option Addr) (n c : Nat) (h : CodeArg w A n c) : Calls Try.prog 12 #[.slice A n c] w (DrawnAy w) := by
  obtain ⟨w1, hw1⟩ : ∃ w1, w.alloc (.cells #[.int .i64 0, .int .i64 0, .string ⟨#[]⟩, .string ⟨#[]⟩, .string ⟨#[]⟩] 26) = w1 := ⟨_, rfl⟩
  have hb1 : Below w.heap.size w w1 := by rw [← hw1]; exact (Below.refl _ _).alloc (Nat.le_refl _) _
  have h1 := codeArg_below h hb1
  have hres := Lib.hid (fun wX (hX : Below w1.heap.size w1 wX) => row5 hw1 hX)
  have hfr := Lib.hid (fun wX (hX : Below w1.heap.size w1 wX) => frzY hw1 hX)
  have hrf : Hid (w.heap.size ≤ w.heap.size) := Lib.hid (Nat.le_refl _)
  go_enter Try.func12, Try.ntmps12
  go_wp2_with (go_at_call 30; refine (open_any w1 A n c h1).mono ?_; rintro e w2 ⟨rfl, hr2⟩)
  have hw1 := Lib.hid hw1
  refine (ay_draw w1 w2 w1.heap.size 0 2 hr2 (by omega) (by omega) (by omega)).mono ?_
  rintro e w3 ⟨⟨kind, num, ⟨na, ho⟩, what⟩, rfl, hsh, hr3, hg3⟩
  simp only [aggAy]
  have hb3 := hr3.bel
  obtain ⟨c0, c1, c2, c3, c4⟩ := hres.out w3 hb3
  have cf := hfr.out w3 hb3
  have HW := Lib.hid (below_trans' hb1 hb3)
  clear hb3 hr3 hg3 hr2
  go_wp2
  refine bodyPost_ret (v := .agg #[.int .i64 kind, .int .i64 num, .string na, .string ho, .string what]) (by simp [results, Try.results12, go_sem, c0, c1, c2, c3, c4]) rfl ⟨⟨kind, num, ⟨na, ho⟩, what⟩, rfl, hsh, ?_⟩
  repeat (first | with_reducible exact HW.out | with_reducible refine Below.setCell ?_ hrf.out _)
set_option maxRecDepth 100000 in
set_option maxHeartbeats 1000000 in
theorem drawAyT_any (w : World) (A : Option Addr) (n c : Nat) (h : CodeArg w A n c) : Calls Try.prog 16 #[.slice A n c] w (DrawnAy w) := by
  obtain ⟨w1, hw1⟩ : ∃ w1, w.alloc (.cells #[.int .i64 0, .int .i64 0, .string ⟨#[]⟩, .string ⟨#[]⟩, .string ⟨#[]⟩] 26) = w1 := ⟨_, rfl⟩
  have hb1 : Below w.heap.size w w1 := by rw [← hw1]; exact (Below.refl _ _).alloc (Nat.le_refl _) _
  have h1 := codeArg_below h hb1
  have hres := Lib.hid (fun wX (hX : Below w1.heap.size w1 wX) => row5 hw1 hX)
  have hfr := Lib.hid (fun wX (hX : Below w1.heap.size w1 wX) => frzY hw1 hX)
  have hrf : Hid (w.heap.size ≤ w.heap.size) := Lib.hid (Nat.le_refl _)
  go_enter Try.func16, Try.ntmps16
  go_wp2_with (go_at_call 30; refine (open_any w1 A n c h1).mono ?_; rintro e w2 ⟨rfl, hr2⟩)
  have hw1 := Lib.hid hw1
  refine (ay_draw w1 w2 w1.heap.size 0 6 hr2 (by omega) (by omega) (by omega)).mono ?_
  rintro e w3 ⟨⟨kind, num, ⟨na, ho⟩, what⟩, rfl, hsh, hr3, hg3⟩
  simp only [aggAy]
  have hb3 := hr3.bel
  obtain ⟨c0, c1, c2, c3, c4⟩ := hres.out w3 hb3
  have cf := hfr.out w3 hb3
  have HW := Lib.hid (below_trans' hb1 hb3)
  clear hb3 hr3 hg3 hr2
  go_wp2
  refine bodyPost_ret (v := .agg #[.int .i64 kind, .int .i64 num, .string na, .string ho, .string what]) (by simp [results, Try.results16, go_sem, c0, c1, c2, c3, c4]) rfl ⟨⟨kind, num, ⟨na, ho⟩, what⟩, rfl, hsh, ?_⟩
  repeat (first | with_reducible exact HW.out | with_reducible refine Below.setCell ?_ hrf.out _)
set_option maxRecDepth 100000 in
set_option maxHeartbeats 4000000 in
theorem drawAyR_any (w : World) (A : Option Addr) (n c : Nat) (h : CodeArg w A n c) : Calls Try.prog 21 #[.slice A n c] w (DrawnStr w 100) := by
  go_enter Try.func21, Try.ntmps21
  go_wp2_with (go_at_call 30; refine (open_any w A n c h).mono ?_; rintro e w2 ⟨rfl, hr2⟩)
  refine (ay_draw w w2 w.heap.size 0 0 hr2 (by omega) (by omega) (by omega)).mono ?_
  rintro e w3 ⟨⟨kind, num, ⟨na, ho⟩, what⟩, rfl, hsh, hr3, hg3⟩
  simp only [aggAy]
  go_wp2_with fail
  refine (ayS_text kind num na ho what _ (fitAy_sh hsh)).mono ?_
  rintro e w4 ⟨rfl, hb4⟩
  have hr4 := rd_below hr3 hb4
  have hs : (bs (ayT ⟨kind, num, ⟨na, ho⟩, what⟩)).size ≤ 41 := by rw [bs_size]; exact ayT_len _
  obtain ⟨s, hs'⟩ : ∃ s, bs (ayT ⟨kind, num, ⟨na, ho⟩, what⟩) = s := ⟨_, rfl⟩
  rw [hs'] at hs ⊢
  clear hs' hb4 hg3 hr3 hr2 hsh
  go_wp2_with fail
  refine (odd_any w _ w.heap.size (0 + 10) 3 hr4 (by omega) (by omega) (by omega)).mono ?_
  rintro e w6 ⟨b, rfl, hr6, _⟩
  have z1 : (⟨#[32, 120]⟩ : ByteArray).size = 2 := rfl
  have z2 : (⟨#[32]⟩ : ByteArray).size = 1 := rfl
  have s1 : s.size + (⟨#[32, 120]⟩ : ByteArray).size ≤ 9223372036854775807 := by omega
  have s2 : s.size + (⟨#[32]⟩ : ByteArray).size ≤ 9223372036854775807 := by omega
  have l1 : (s ++ ⟨#[32, 120]⟩ : ByteArray).size ≤ 100 := by rw [ByteArray.size_append]; omega
  have l2 : (s ++ ⟨#[32]⟩ : ByteArray).size ≤ 100 := by rw [ByteArray.size_append]; omega
  have L1 := Lib.hid l1
  have L2 := Lib.hid l2
  clear l1 l2 z1 z2
  rcases b with _ | _
  · go_wp2
    go_ret
    exact ⟨_, by omega, rfl, hr6.bel⟩
  · go_wp2_with fail
    refine (pick_any w _ w.heap.size (0 + 10 + 1) 10 (hr6.alloc _) (by omega)).mono ?_
    rintro e w7 ⟨v4, a4, b4, _, rfl, hr7, hg7⟩
    have b4 := b4 (by omega)
    have k0 := cell_kept hg7 hr6.lt
    clear hg7
    obtain rfl | rfl | rfl | rfl | rfl | rfl | rfl | rfl | rfl | rfl : v4 = 0 ∨ v4 = 1 ∨ v4 = 2 ∨ v4 = 3 ∨ v4 = 4 ∨ v4 = 5 ∨ v4 = 6 ∨ v4 = 7 ∨ v4 = 8 ∨ v4 = 9 := by omega
    all_goals
      go_wp2
      go_ret
      first
        | exact ⟨_, by decide, rfl, hr7.bel⟩
        | exact ⟨_, L1.out, rfl, hr7.bel⟩
        | exact ⟨_, L2.out, rfl, hr7.bel⟩
/-- what the operations of the region yield -/
def QUn (B g : Nat) (kind num : Int) (na ho what : ByteArray) (j : Nat) (v : Value) (w : World) : Prop :=
  match j with
  | 0 => v = .agg #[.int .i64 kind, .int .i64 num, .string na, .string ho, .string what]
  | 1 => v = .pointer (some ⟨g, 0, none⟩)
  | 2 => ∃ z : Int, v = .int .i64 z
  | 3 => ∃ z : Int, RowAt B g 3 #[.int .i64 z, .int .i64 1000000001, .int .i64 (-1)] v w
  | 4 => RowAt B g 6 #[.int .i64 0, .int .i64 0, .int .i64 0, .int .i64 0, .int .i64 1, .int .i64 2] v w
  | 5 => v = .pointer (some ⟨g, 0, none⟩)
  | 6 => ∃ z : Nat, v = .int .i64 z ∧ z < 6
  | 7 => ∃ z : Nat, z < 3 ∧ CelAt B g (.int .i64 z) v w
  | 8 => ∃ z : Nat, z < 3 ∧ v = .int .i64 z
  | 9 => ∃ z : Int, CelAt B g (.int .i64 z) v w
  | 10 => ∃ z : Int, v = .int .i64 z
  | 11 => True
  | 12 => ∃ z : Int, v = .int .i64 z
  | _ => False
theorem QUn_mono {B g q : Nat} (hq : q < B) {kind num : Int} {na ho what : ByteArray} (j : Nat) (v : Value) (w w' : World) (_ : j < 13) (h : QUn B g kind num na ho what j v w) (hk : Kp g q w w') : QUn B g kind num na ho what j v w' := by
  match j, h with
  | 0, h => exact h
  | 1, h => exact h
  | 2, h => exact h
  | 3, h => obtain ⟨z, h⟩ := h; exact ⟨z, h.keep hq hk⟩
  | 4, h => exact RowAt.keep h hq hk
  | 5, h => exact h
  | 6, h => exact h
  | 7, h => obtain ⟨z, hz, h⟩ := h; exact ⟨z, hz, h.keep hq hk⟩
  | 8, h => exact h
  | 9, h => obtain ⟨z, h⟩ := h; exact ⟨z, h.keep hq hk⟩
  | 10, h => exact h
  | 11, h => exact h
  | 12, h => exact h
theorem un3 (j : Nat) (h : j < 3) (z : Int) : ∃ u : Int, (#[Value.int .i64 z, .int .i64 1000000001, .int .i64 (-1)] : Array Value)[j]? = some (.int .i64 u) := by
  obtain rfl | rfl | rfl : j = 0 ∨ j = 1 ∨ j = 2 := by omega
  · exact ⟨_, rfl⟩
  · exact ⟨_, rfl⟩
  · exact ⟨_, rfl⟩
theorem un6 (j : Nat) (h : j < 6) : ∃ u : Nat, u < 3 ∧ (#[Value.int .i64 0, .int .i64 0, .int .i64 0, .int .i64 0, .int .i64 1, .int .i64 2] : Array Value)[j]? = some (.int .i64 u) := by
  obtain rfl | rfl | rfl | rfl | rfl | rfl : j = 0 ∨ j = 1 ∨ j = 2 ∨ j = 3 ∨ j = 4 ∨ j = 5 := by omega
  · exact ⟨0, by omega, rfl⟩
  · exact ⟨0, by omega, rfl⟩
  · exact ⟨0, by omega, rfl⟩
  · exact ⟨0, by omega, rfl⟩
  · exact ⟨1, by omega, rfl⟩
  · exact ⟨2, by omega, rfl⟩
def DrawnAyI (w : World) (e : Ending) (w' : World) : Prop := ∃ (y : Ay) (n : Int), e = .returned (.tuple #[aggAy y, .int .i64 n]) ∧ ShAy y ∧ Below w.heap.size w w'
/-- the world of the region: the reader, the local variable bv, the result's variable -/
def UnG (w : World) (g bv B : Nat) (row zero : Array Value) (T : TypeId) (f : Nat → Bool) (wx : World) : Prop :=
  SetG w g 10 [(2, 1), (6, 1)] B f wx ∧ wx.heap[bv]? = some (.cells row T (0, 0)) ∧ wx.heap[w.heap.size]? = some (.cells (if f 11 then row else zero) T (0, 0))
theorem UnG.step {w : World} {g bv B : Nat} {row zero : Array Value} {T : TypeId} {f : Nat → Bool} {wx : World} (h : UnG w g bv B row zero T f wx) {i : Nat} (hi : i ≠ 11) : UnG w g bv B row zero T (upd f i) wx :=
  ⟨h.1.step i, h.2.1, by rw [upd_ne (Ne.symm hi)]; exact h.2.2⟩
theorem UnG.alloc {w : World} {g bv B : Nat} {row zero : Array Value} {T : TypeId} {f : Nat → Bool} {wx : World} (h : UnG w g bv B row zero T f wx) (o : Obj) {i : Nat} (hi : i ≠ 11) : UnG w g bv B row zero T (upd f i) (wx.alloc o) :=
  ⟨h.1.alloc o i, by rw [Below.heap_alloc _ _ _ (Array.getElem?_eq_some_iff.1 h.2.1).1]; exact h.2.1, by rw [Below.heap_alloc _ _ _ (Array.getElem?_eq_some_iff.1 h.2.2).1, upd_ne (Ne.symm hi)]; exact h.2.2⟩
theorem UnG.call {w : World} {g bv B : Nat} {row zero : Array Value} {T : TypeId} {f : Nat → Bool} {wx w' : World} (h : UnG w g bv B row zero T f wx) {i c : Nat} (hi : (i, c) ∈ [(2, 1), (6, 1)]) (hf : f i = false) (hr : Rd w w' g (10 + costF [(2, 1), (6, 1)] f + c)) (hg : wx.grownBy w' (some g)) (h11 : i ≠ 11) (hbv : bv ≠ g) (hq : w.heap.size ≠ g) : UnG w g bv B row zero T (upd f i) w' :=
  ⟨h.1.call hi hf hr hg, by rw [hg.block _ (Array.getElem?_eq_some_iff.1 h.2.1).1 (by intro e; injection e; omega)]; exact h.2.1, by rw [hg.block _ (Array.getElem?_eq_some_iff.1 h.2.2).1 (by intro e; injection e; omega), upd_ne (Ne.symm h11)]; exact h.2.2⟩
set_option maxRecDepth 100000 in
set_option maxHeartbeats 4000000 in
theorem drawUn_any (w : World) (A : Option Addr) (n c : Nat) (h : CodeArg w A n c) : Calls Try.prog 23 #[.slice A n c] w (DrawnAyI w) := by
  obtain ⟨w1, hw1⟩ : ∃ w1, w.alloc (.cells #[.int .i64 0, .int .i64 0, .string ⟨#[]⟩, .string ⟨#[]⟩, .string ⟨#[]⟩] 26) = w1 := ⟨_, rfl⟩
  have hb1 : Below w.heap.size w w1 := by rw [← hw1]; exact (Below.refl _ _).alloc (Nat.le_refl _) _
  have hz1 : w1.heap[w.heap.size]? = some (.cells #[.int .i64 0, .int .i64 0, .string ⟨#[]⟩, .string ⟨#[]⟩, .string ⟨#[]⟩] 26 (0, 0)) := by rw [← hw1]; exact heap_alloc_new w _
  have hs1 : w1.heap.size = w.heap.size + 1 := by rw [← hw1]; simp
  obtain ⟨g, hg⟩ : ∃ g, w1.heap.size = g := ⟨_, rfl⟩
  have hgq : w.heap.size < g := by omega
  have hne : w.heap.size ≠ g := by omega
  have hob := Lib.hid (open_base w w1 A n c h hb1)
  rw [hg] at hob
  have hz1 := Lib.hid hz1
  have hlt1 : Hid (w.heap.size < w1.heap.size) := Lib.hid (by omega)
  clear hs1
  have hg := Lib.hid hg
  go_enter Try.func23, Try.ntmps23
  go_wp2_with (go_at_call 30; refine hob.out.mono ?_; rintro e w2 ⟨rfl, hr2, hb12⟩)
  have hw1 := Lib.hid hw1
  have hz2 := Lib.hid ((hg.out ▸ hb12 : Below w1.heap.size w1 w2).block w.heap.size hlt1.out |>.trans hz1.out)
  refine (ay_draw w w2 g 0 9 hr2 (by omega) (by omega) (by omega)).mono ?_
  rintro e w3 ⟨⟨kind, num, ⟨na, ho⟩, what⟩, rfl, hsh, hr3, hg3⟩
  have hz3 := Lib.hid ((hg3.block w.heap.size (Array.getElem?_eq_some_iff.1 hz2.out).1 (by intro e; injection e; omega)).trans hz2.out)
  simp only [aggAy]
  obtain ⟨w4, hw4⟩ : ∃ w4, w3.alloc (.cells #[.int .i64 kind, .int .i64 num, .string na, .string ho, .string what] 26) = w4 := ⟨_, rfl⟩
  obtain ⟨bv, hbv⟩ : ∃ bv, w3.heap.size = bv := ⟨_, rfl⟩
  have hr4 : Rd w w4 g (0 + 10) := by rw [← hw4]; exact hr3.alloc _
  have hy4 : w4.heap[bv]? = some (.cells #[.int .i64 kind, .int .i64 num, .string na, .string ho, .string what] 26 (0, 0)) := by rw [← hw4, ← hbv]; exact heap_alloc_new w3 _
  have hz4 : w4.heap[w.heap.size]? = some (.cells #[.int .i64 0, .int .i64 0, .string ⟨#[]⟩, .string ⟨#[]⟩, .string ⟨#[]⟩] 26 (0, 0)) := by rw [← hw4, Below.heap_alloc _ _ _ (Array.getElem?_eq_some_iff.1 hz3.out).1]; exact hz3.out
  have hbg : g < bv := by rw [← hbv]; exact hr3.lt
  have hbq : w.heap.size < bv := by omega
  have hb4 := hr4.bel
  have hG0 : UnG w g bv w4.heap.size #[.int .i64 kind, .int .i64 num, .string na, .string ho, .string what] #[.int .i64 0, .int .i64 0, .string ⟨#[]⟩, .string ⟨#[]⟩, .string ⟨#[]⟩] 26 (fun _ => false) w4.drew :=
    ⟨⟨⟨_, hr4.drew, by omega⟩, Nat.le_refl _⟩, hy4, hz4⟩
  have hq4 : w.heap.size < w4.heap.size := (Array.getElem?_eq_some_iff.1 hz4).1
  clear hg3 hr3 hr2 hb12 h hb1
  go_wp2_with fail
  have hw4 := Lib.hid hw4
  have hbv := Lib.hid hbv
  obtain ⟨Fr, hFr⟩ : ∃ Fr : (Nat → Value) → Act, Fr = (fun x => { tmps := #[.slice A n c, undef, .pointer (some ⟨w.heap.size, 0, none⟩), x 12, .pointer (some ⟨g, 0, none⟩), .pointer (some ⟨bv, 0, none⟩), .slice A n c, .pointer (some ⟨g, 0, none⟩), .pointer (some ⟨g, 0, none⟩), .agg #[.int .i64 kind, .int .i64 num, .string na, .string ho, .string what], x 0, x 1, x 2, x 3, x 4, x 5, x 6, x 7, x 8, x 9, x 10], defers := [] }) := ⟨_, rfl⟩
  refine inv_region (n := 13) (by kernel_rfl) rfl Fr (QUn w4.heap.size g kind num na ho what) (UnG w g bv w4.heap.size #[.int .i64 kind, .int .i64 num, .string na, .string ho, .string what] #[.int .i64 0, .int .i64 0, .string ⟨#[]⟩, .string ⟨#[]⟩, .string ⟨#[]⟩] 26) (Kp g w.heap.size) (by kernel_rfl) (fun j => if j = 12 then .int .i64 0 else undef) (by rw [hFr]; rfl) hG0 (QUn_mono hq4) ?_ ?_
  · intro i o f x wx hi ho' hf hp hG hQ K hK
    subst hFr
    have hcost := cost_all [(2, 1), (6, 1)] f
    have hca : costAll [(2, 1), (6, 1)] = 2 := rfl
    have hsz := hG.1.sz
    have hgl := hG.1.lt
    obtain rfl | rfl | rfl | rfl | rfl | rfl | rfl | rfl | rfl | rfl | rfl | rfl | rfl : i = 0 ∨ i = 1 ∨ i = 2 ∨ i = 3 ∨ i = 4 ∨ i = 5 ∨ i = 6 ∨ i = 7 ∨ i = 8 ∨ i = 9 ∨ i = 10 ∨ i = 11 ∨ i = 12 := by omega
    · simp at ho'
      subst ho'
      have y0 := cell_of_row wx bv 0 _ _ (0, 0) hG.2.1
      have y1 := cell_of_row wx bv 1 _ _ (0, 0) hG.2.1
      have y2 := cell_of_row wx bv 2 _ _ (0, 0) hG.2.1
      have y3 := cell_of_row wx bv 3 _ _ (0, 0) hG.2.1
      have y4 := cell_of_row wx bv 4 _ _ (0, 0) hG.2.1
      rw [if_pos (by rfl)]
      go_simp
      have key := hK _ _ rfl (Kp.refl _ _ _) (hG.step (i := 0) (by omega))
      simp [setX] at key
      exact key
    · simp at ho'
      subst ho'
      rw [if_pos (by rfl)]
      go_simp
      have key := hK _ _ rfl (Kp.refl _ _ _) (hG.step (i := 1) (by omega))
      simp [setX] at key
      exact key
    · simp at ho'
      subst ho'
      have p1 : f 1 = true := hp { on := 1, ground := .data } (by simp) rfl
      have q1 := hQ 1 (by omega) p1
      have q1 : x 1 = .pointer (some ⟨g, 0, none⟩) := q1
      rw [if_pos (by rfl)]
      go_simp
      refine (pick_any w _ g (10 + costF [(2, 1), (6, 1)] f) 99 hG.1.rd' (by omega)).mono ?_
      rintro e w' ⟨v, v0, v1, _, rfl, hr', hg'⟩
      have key := hK _ _ ⟨v, rfl⟩ (Kp.of hg') (hG.call (i := 2) (c := 1) (by simp) hf hr' hg' (by omega) (by omega) hne)
      simp [setX, q1] at key
      exact key
    · simp at ho'
      subst ho'
      have p2 : f 2 = true := hp { on := 2, ground := .data } (by simp) rfl
      have q2 := hQ 2 (by omega) p2
      obtain ⟨z2, h2⟩ := q2
      rw [if_pos (by rfl)]
      go_simp
      have key := hK (.slice (some ⟨wx.heap.size, 0, none⟩) 3 3) (wx.alloc (.cells #[.int .i64 z2, .int .i64 1000000001, .int .i64 (-1)] 3)) ⟨z2, RowAt.new hsz hgl⟩ (Kp.of (grown_alloc _ _ _)) (hG.alloc _ (i := 3) (by omega))
      simp [setX, h2] at key
      exact key
    · simp at ho'
      subst ho'
      rw [if_pos (by rfl)]
      go_simp
      have key := hK (.slice (some ⟨wx.heap.size, 0, none⟩) 6 6) (wx.alloc (.cells #[.int .i64 0, .int .i64 0, .int .i64 0, .int .i64 0, .int .i64 1, .int .i64 2] 3)) (RowAt.new hsz hgl) (Kp.of (grown_alloc _ _ _)) (hG.alloc _ (i := 4) (by omega))
      simp [setX] at key
      exact key
    · simp at ho'
      subst ho'
      rw [if_pos (by rfl)]
      go_simp
      have key := hK _ _ rfl (Kp.refl _ _ _) (hG.step (i := 5) (by omega))
      simp [setX] at key
      exact key
    · simp at ho'
      subst ho'
      have p5 : f 5 = true := hp { on := 5, ground := .data } (by simp) rfl
      have q5 := hQ 5 (by omega) p5
      have q5 : x 5 = .pointer (some ⟨g, 0, none⟩) := q5
      rw [if_pos (by rfl)]
      go_simp
      refine (pick_any w _ g (10 + costF [(2, 1), (6, 1)] f) 6 hG.1.rd' (by omega)).mono ?_
      rintro e w' ⟨v, v0, v1, _, rfl, hr', hg'⟩
      have key := hK _ _ ⟨v.toNat, by rw [Int.toNat_of_nonneg v0], by have := v1 (by omega); omega⟩ (Kp.of hg') (hG.call (i := 6) (c := 1) (by simp) hf hr' hg' (by omega) (by omega) hne)
      simp [setX, q5] at key
      exact key
    · simp at ho'
      subst ho'
      have p4 : f 4 = true := hp { on := 4, ground := .data } (by simp) rfl
      have q4 := hQ 4 (by omega) p4
      have p6 : f 6 = true := hp { on := 6, ground := .data } (by simp) rfl
      have q6 := hQ 6 (by omega) p6
      obtain ⟨b4, h4, l4, n4, s4, c4⟩ := q4
      obtain ⟨z6, h6, l6⟩ := q6
      obtain ⟨u, hu, hu2⟩ := un6 z6 l6
      have j0 : (0 : Int) ≤ (z6 : Int) := by omega
      have j1 : (z6 : Int) < 6 := by omega
      rw [if_pos (by rfl)]
      go_simp
      have key := hK _ _ ⟨u, hu, b4, z6, rfl, l4, n4, s4, by rw [c4]; exact hu2⟩ (Kp.refl _ _ _) (hG.step (i := 7) (by omega))
      simp [setX, h4, h6] at key
      exact key
    · simp at ho'
      subst ho'
      have p7 : f 7 = true := hp { on := 7, ground := .data } (by simp) rfl
      have q7 := hQ 7 (by omega) p7
      obtain ⟨u, hu, b7, j7, h7, l7, n7, s7, c7⟩ := q7
      rw [if_pos (by rfl)]
      go_simp
      have key := hK _ _ ⟨u, hu, rfl⟩ (Kp.refl _ _ _) (hG.step (i := 8) (by omega))
      simp [setX, h7] at key
      exact key
    · simp at ho'
      subst ho'
      have p3 : f 3 = true := hp { on := 3, ground := .data } (by simp) rfl
      have q3 := hQ 3 (by omega) p3
      have p8 : f 8 = true := hp { on := 8, ground := .data } (by simp) rfl
      have q8 := hQ 8 (by omega) p8
      obtain ⟨z3, b3, h3, l3, n3, s3, c3⟩ := q3
      obtain ⟨u, hu, h8⟩ := q8
      obtain ⟨k9, hk9⟩ := un3 u hu z3
      have j0 : (0 : Int) ≤ (u : Int) := by omega
      have j1 : (u : Int) < 3 := by omega
      rw [if_pos (by rfl)]
      go_simp
      have key := hK _ _ ⟨k9, b3, u, rfl, l3, n3, s3, by rw [c3]; exact hk9⟩ (Kp.refl _ _ _) (hG.step (i := 9) (by omega))
      simp [setX, h3, h8] at key
      exact key
    · simp at ho'
      subst ho'
      have p9 : f 9 = true := hp { on := 9, ground := .data } (by simp) rfl
      have q9 := hQ 9 (by omega) p9
      obtain ⟨k9, b9, j9, h9, l9, n9, s9, c9⟩ := q9
      rw [if_pos (by rfl)]
      go_simp
      have key := hK _ _ ⟨k9, rfl⟩ (Kp.refl _ _ _) (hG.step (i := 10) (by omega))
      simp [setX, h9] at key
      exact key
    · simp at ho'
      subst ho'
      have p0 : f 0 = true := hp { on := 0, ground := .data } (by simp) rfl
      have q0 := hQ 0 (by omega) p0
      have q0 : x 0 = .agg #[.int .i64 kind, .int .i64 num, .string na, .string ho, .string what] := q0
      have hz := hG.2.2
      rw [hf] at hz
      have hz : wx.heap[w.heap.size]? = some (.cells #[.int .i64 0, .int .i64 0, .string ⟨#[]⟩, .string ⟨#[]⟩, .string ⟨#[]⟩] 26 (0, 0)) := hz
      have d0 := cell_of_row wx w.heap.size 0 _ _ (0, 0) hz
      have d1 := cell_of_row wx w.heap.size 1 _ _ (0, 0) hz
      have d2 := cell_of_row wx w.heap.size 2 _ _ (0, 0) hz
      have d3 := cell_of_row wx w.heap.size 3 _ _ (0, 0) hz
      have d4 := cell_of_row wx w.heap.size 4 _ _ (0, 0) hz
      have zf : ∀ j, wx.frozen? ⟨w.heap.size, j, none⟩ = false := fun j => by simp [World.frozen?, hz]
      have e0 := heap_setCell_same _ w.heap.size 0 _ _ (.int .i64 kind) hz
      have e1 := heap_setCell_same _ w.heap.size 1 _ _ (.int .i64 num) e0
      have e2 := heap_setCell_same _ w.heap.size 2 _ _ (.string na) e1
      have e3 := heap_setCell_same _ w.heap.size 3 _ _ (.string ho) e2
      have e4 := heap_setCell_same _ w.heap.size 4 _ _ (.string what) e3
      have hy : (((((wx.setCell ⟨w.heap.size, 0, none⟩ (.int .i64 kind)).setCell ⟨w.heap.size, 1, none⟩ (.int .i64 num)).setCell ⟨w.heap.size, 2, none⟩ (.string na)).setCell ⟨w.heap.size, 3, none⟩ (.string ho)).setCell ⟨w.heap.size, 4, none⟩ (.string what)).heap[bv]? = some (.cells #[.int .i64 kind, .int .i64 num, .string na, .string ho, .string what] 26 (0, 0)) := by rw [((((((Kp.refl g w.heap.size wx).set 0 (.int .i64 kind)).set 1 (.int .i64 num)).set 2 (.string na)).set 3 (.string ho)).set 4 (.string what)).2 bv (Array.getElem?_eq_some_iff.1 hG.2.1).1 (by omega) (by omega)]; exact hG.2.1
      have HG : UnG w g bv w4.heap.size #[.int .i64 kind, .int .i64 num, .string na, .string ho, .string what] #[.int .i64 0, .int .i64 0, .string ⟨#[]⟩, .string ⟨#[]⟩, .string ⟨#[]⟩] 26 (upd f 11) (((((wx.setCell ⟨w.heap.size, 0, none⟩ (.int .i64 kind)).setCell ⟨w.heap.size, 1, none⟩ (.int .i64 num)).setCell ⟨w.heap.size, 2, none⟩ (.string na)).setCell ⟨w.heap.size, 3, none⟩ (.string ho)).setCell ⟨w.heap.size, 4, none⟩ (.string what)) := ⟨(((((hG.1.set (Nat.le_refl _) hne 0 (.int .i64 kind)).set (Nat.le_refl _) hne 1 (.int .i64 num)).set (Nat.le_refl _) hne 2 (.string na)).set (Nat.le_refl _) hne 3 (.string ho)).set (Nat.le_refl _) hne 4 (.string what)).step 11, hy, by rw [upd_self]; exact e4⟩
      have HG := Lib.hid HG
      have HK := Lib.hid ((((((Kp.refl g w.heap.size wx).set 0 (.int .i64 kind)).set 1 (.int .i64 num)).set 2 (.string na)).set 3 (.string ho)).set 4 (.string what))
      clear e0 e1 e2 e3 e4 hy hz
      rw [if_pos (by rfl)]
      go_simp
      have key := hK undef _ trivial HK.out HG.out
      simp [setX, q0] at key
      exact key
    · simp at ho'
      subst ho'
      have p10 : f 10 = true := hp { on := 10, ground := .data } (by simp) rfl
      have q10 := hQ 10 (by omega) p10
      obtain ⟨z10, h10⟩ := q10
      rw [if_pos (by rfl)]
      go_simp
      have key := hK _ _ ⟨z10, rfl⟩ (Kp.refl _ _ _) (hG.step (i := 12) (by omega))
      simp [setX, h10] at key
      exact key
  · intro x f wx hf hG hQ
    subst hFr
    obtain ⟨k, hk⟩ : ∃ k : Int, x 12 = .int .i64 k := hQ 12 (by omega)
    have hz := hG.2.2
    rw [hf 11 (by omega)] at hz
    have hz : wx.heap[w.heap.size]? = some (.cells #[.int .i64 kind, .int .i64 num, .string na, .string ho, .string what] 26 (0, 0)) := hz
    have d0 := cell_of_row wx w.heap.size 0 _ _ (0, 0) hz
    have d1 := cell_of_row wx w.heap.size 1 _ _ (0, 0) hz
    have d2 := cell_of_row wx w.heap.size 2 _ _ (0, 0) hz
    have d3 := cell_of_row wx w.heap.size 3 _ _ (0, 0) hz
    have d4 := cell_of_row wx w.heap.size 4 _ _ (0, 0) hz
    have hbe := hG.1.rd'.bel
    clear hQ hz
    dsimp only
    rw [hk]
    go_wp2
    exact bodyPost_ret (v := .tuple #[.agg #[.int .i64 kind, .int .i64 num, .string na, .string ho, .string what], .int .i64 k]) (by simp [results, Try.results23, go_sem, d0, d1, d2, d3, d4]) rfl ⟨⟨kind, num, ⟨na, ho⟩, what⟩, k, rfl, hsh, hbe⟩
end Go.Proofs.Ythgjhonnibghlaa
