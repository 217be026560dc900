/-
  The verifier's own text: DAy DAy2 DUn.
-/
import Derived.Test.YtolkgamfoopnjaaRows
import Derived.Test.YtolkgamfoopnjaaGs
import Derived.Test.YtolkgamfoopnjaaHB
import Derived.Test.YtolkgamfoopnjaaHG
import Derived.Test.YtolkgamfoopnjaaHA
import Derived.Test.YtolkgamfoopnjaaHH
import Derived.WalkKit
import Derived.ProofKit
import Derived.Below
import Derived.Lib.Hide
import Derived.Outline
import Derived.BigQuiet
import Derived.Deep.QuietTactic
import Derived.Deep.Draws
import Derived.Laws.OwnMore
import Derived.Laws.Rows
import Derived.WalkSpells
import Derived.Deep.RegionWith
namespace Go.Proofs.Ytolkgamfoopnjaa
open Go.RowKit
set_option linter.unusedVariables false
/-- an activity that was drawn, and the reader -/
def DrewAy (W w : World) (g m : Nat) (e : Ending) (w' : World) : Prop := ∃ y : Ay, e = .returned (aggAy y) ∧ ShAy y ∧ Rd W w' g m ∧ w.grownBy w' (some g)
/-- a store into new memory -/
theorem gs_setY {a w : World} {row : Option Nat} (h : a.grownBy w row) {b : Nat} (hb : a.heap.size ≤ b) (j : Nat) (u : Value) : a.grownBy (w.setCell ⟨b, j, none⟩ u) row :=
  ⟨h.os, h.tape, h.output, Nat.le_trans h.size (by simp [World.setCell]), fun k hk hne => (Below.heap_setCell w ⟨b, j, none⟩ u k (by intro e; have : k = b := e; omega)).trans (h.block k hk hne)⟩
theorem handA_draw (W w : World) (g m : Nat) (n : Int) (h : Rd W w g m) (hm : m ≤ 700000) (hn1 : -1000000 ≤ n) (hn2 : n ≤ 1000000) :
    Calls Try.prog 31 #[.pointer (some ⟨g, 0, none⟩), .int .i64 n] w (fun e w' => ∃ y : Hn, e = .returned (aggHn y) ∧ ShHn y ∧ Rd W w' g (m + 6) ∧ w.grownBy w' (some g)) :=
  (hand_draw W w g m n h hm hn1 hn2).mono fun e w' ⟨s0, s1, he, l0, l1, hr, hg⟩ => ⟨⟨s0, s1⟩, he, ⟨by show s0.size ≤ 100; omega, by show s1.size ≤ 100; omega⟩, hr, hg⟩
theorem lit_ays (j : Nat) (h : j < 5) : ∃ y : Ay, ShAy y ∧ (#[Value.int .i64 (0), .int .i64 (0), .string ⟨#[]⟩, .string ⟨#[]⟩, .string ⟨#[]⟩, .int .i64 (-1), .int .i64 (0), .string ⟨#[97]⟩, .string ⟨#[98]⟩, .string ⟨#[99]⟩, .int .i64 (6), .int .i64 (0), .string ⟨#[97]⟩, .string ⟨#[98]⟩, .string ⟨#[99]⟩, .int .i64 (0), .int .i64 (0), .string ⟨#[97]⟩, .string ⟨#[98]⟩, .string ⟨#[]⟩, .int .i64 (0), .int .i64 (-1), .string ⟨#[97]⟩, .string ⟨#[98]⟩, .string ⟨#[99]⟩] : Array Value)[j * 5]? = some (.int .i64 y.kind) ∧
    (#[Value.int .i64 (0), .int .i64 (0), .string ⟨#[]⟩, .string ⟨#[]⟩, .string ⟨#[]⟩, .int .i64 (-1), .int .i64 (0), .string ⟨#[97]⟩, .string ⟨#[98]⟩, .string ⟨#[99]⟩, .int .i64 (6), .int .i64 (0), .string ⟨#[97]⟩, .string ⟨#[98]⟩, .string ⟨#[99]⟩, .int .i64 (0), .int .i64 (0), .string ⟨#[97]⟩, .string ⟨#[98]⟩, .string ⟨#[]⟩, .int .i64 (0), .int .i64 (-1), .string ⟨#[97]⟩, .string ⟨#[98]⟩, .string ⟨#[99]⟩] : Array Value)[j * 5 + 1]? = some (.int .i64 y.num) ∧
    (#[Value.int .i64 (0), .int .i64 (0), .string ⟨#[]⟩, .string ⟨#[]⟩, .string ⟨#[]⟩, .int .i64 (-1), .int .i64 (0), .string ⟨#[97]⟩, .string ⟨#[98]⟩, .string ⟨#[99]⟩, .int .i64 (6), .int .i64 (0), .string ⟨#[97]⟩, .string ⟨#[98]⟩, .string ⟨#[99]⟩, .int .i64 (0), .int .i64 (0), .string ⟨#[97]⟩, .string ⟨#[98]⟩, .string ⟨#[]⟩, .int .i64 (0), .int .i64 (-1), .string ⟨#[97]⟩, .string ⟨#[98]⟩, .string ⟨#[99]⟩] : Array Value)[j * 5 + 2]? = some (.string y.who.name) ∧
    (#[Value.int .i64 (0), .int .i64 (0), .string ⟨#[]⟩, .string ⟨#[]⟩, .string ⟨#[]⟩, .int .i64 (-1), .int .i64 (0), .string ⟨#[97]⟩, .string ⟨#[98]⟩, .string ⟨#[99]⟩, .int .i64 (6), .int .i64 (0), .string ⟨#[97]⟩, .string ⟨#[98]⟩, .string ⟨#[99]⟩, .int .i64 (0), .int .i64 (0), .string ⟨#[97]⟩, .string ⟨#[98]⟩, .string ⟨#[]⟩, .int .i64 (0), .int .i64 (-1), .string ⟨#[97]⟩, .string ⟨#[98]⟩, .string ⟨#[99]⟩] : Array Value)[j * 5 + 3]? = some (.string y.who.host) ∧
    (#[Value.int .i64 (0), .int .i64 (0), .string ⟨#[]⟩, .string ⟨#[]⟩, .string ⟨#[]⟩, .int .i64 (-1), .int .i64 (0), .string ⟨#[97]⟩, .string ⟨#[98]⟩, .string ⟨#[99]⟩, .int .i64 (6), .int .i64 (0), .string ⟨#[97]⟩, .string ⟨#[98]⟩, .string ⟨#[99]⟩, .int .i64 (0), .int .i64 (0), .string ⟨#[97]⟩, .string ⟨#[98]⟩, .string ⟨#[]⟩, .int .i64 (0), .int .i64 (-1), .string ⟨#[97]⟩, .string ⟨#[98]⟩, .string ⟨#[99]⟩] : Array Value)[j * 5 + 4]? = some (.string y.what) := by
  obtain rfl | rfl | rfl | rfl | rfl : j = 0 ∨ j = 1 ∨ j = 2 ∨ j = 3 ∨ j = 4 := by omega
  · exact ⟨⟨0, 0, ⟨⟨#[]⟩, ⟨#[]⟩⟩, ⟨#[]⟩⟩, ⟨by unfold ShI; decide, by unfold ShI; decide, ⟨by unfold ShS; decide, by unfold ShS; decide⟩, by unfold ShS; decide⟩, rfl, rfl, rfl, rfl, rfl⟩
  · exact ⟨⟨-1, 0, ⟨⟨#[97]⟩, ⟨#[98]⟩⟩, ⟨#[99]⟩⟩, ⟨by unfold ShI; decide, by unfold ShI; decide, ⟨by unfold ShS; decide, by unfold ShS; decide⟩, by unfold ShS; decide⟩, rfl, rfl, rfl, rfl, rfl⟩
  · exact ⟨⟨6, 0, ⟨⟨#[97]⟩, ⟨#[98]⟩⟩, ⟨#[99]⟩⟩, ⟨by unfold ShI; decide, by unfold ShI; decide, ⟨by unfold ShS; decide, by unfold ShS; decide⟩, by unfold ShS; decide⟩, rfl, rfl, rfl, rfl, rfl⟩
  · exact ⟨⟨0, 0, ⟨⟨#[97]⟩, ⟨#[98]⟩⟩, ⟨#[]⟩⟩, ⟨by unfold ShI; decide, by unfold ShI; decide, ⟨by unfold ShS; decide, by unfold ShS; decide⟩, by unfold ShS; decide⟩, rfl, rfl, rfl, rfl, rfl⟩
  · exact ⟨⟨0, -1, ⟨⟨#[97]⟩, ⟨#[98]⟩⟩, ⟨#[99]⟩⟩, ⟨by unfold ShI; decide, by unfold ShI; decide, ⟨by unfold ShS; decide, by unfold ShS; decide⟩, by unfold ShS; decide⟩, rfl, rfl, rfl, rfl, rfl⟩
theorem lit_k (j : Nat) (h : j < 3) : ∃ s : ByteArray, ShS s ∧ (#[Value.string ⟨#[107, 49]⟩, .string ⟨#[107, 50]⟩, .string ⟨#[107, 51]⟩] : Array Value)[j]? = some (.string s) := by
  obtain rfl | rfl | rfl : j = 0 ∨ j = 1 ∨ j = 2 := by omega
  · exact ⟨_, by unfold ShS; decide, rfl⟩
  · exact ⟨_, by unfold ShS; decide, rfl⟩
  · exact ⟨_, by unfold ShS; decide, rfl⟩
set_option maxRecDepth 100000 in
set_option maxHeartbeats 8000000 in
theorem ay_draw (W w : World) (g m : Nat) (n : Int) (h : Rd W w g m) (hm : m ≤ 600000) (hn1 : -1000000 ≤ n) (hn2 : n ≤ 1000000) :
    Calls Try.prog 11 #[.pointer (some ⟨g, 0, none⟩), .int .i64 n] w (DrewAy W w g (m + 10)) := by
  have hlt := h.lt
  have hlo := h.lo
  have hWw : W.heap.size ≤ w.heap.size := h.bel.size
  obtain ⟨w1, hw1⟩ : ∃ w1, w.alloc (.cells #[.int .i64 0, .int .i64 0, .string ⟨#[]⟩, .string ⟨#[]⟩, .string ⟨#[]⟩] 26) = w1 := ⟨_, rfl⟩
  have hr1 : Rd W w1 g m := by rw [← hw1]; exact h.alloc _
  have hz1 : w1.heap[w.heap.size]? = some (.cells #[.int .i64 0, .int .i64 0, .string ⟨#[]⟩, .string ⟨#[]⟩, .string ⟨#[]⟩] 26 (0, 0)) := by rw [← hw1]; exact heap_alloc_new w _
  have hgw0 : w.grownBy w1 (some g) := by rw [← hw1]; exact grown_alloc w _ _
  have hs0 : w.heap.size < w1.heap.size := by rw [← hw1]; simp
  go_enter Try.func11, Try.ntmps11
  go_wp2_with fail
  have hw1 := Lib.hid hw1
  refine (odd_any W _ g m n hr1 (by omega) hn1 hn2).mono ?_
  rintro e wo ⟨b, rfl, hr2, hg2⟩
  have hz2 : wo.heap[w.heap.size]? = some (.cells #[.int .i64 0, .int .i64 0, .string ⟨#[]⟩, .string ⟨#[]⟩, .string ⟨#[]⟩] 26 (0, 0)) := (hg2.block w.heap.size hs0 (by intro e; injection e; omega)).trans hz1
  have hgw1 : w.grownBy wo (some g) := grown_trans hgw0 hg2
  have hs1 : w.heap.size < wo.heap.size := Nat.lt_of_lt_of_le hs0 hg2.size
  clear hg2
  cases b with
  | true =>
    have hlt2 := hr2.lt
    go_wp2_with fail
    refine (pick_any W _ g (m + 1) 5 (hr2.alloc _) (by omega)).mono ?_
    rintro e w3 ⟨v, v0, v1, _, rfl, hr3, hg3⟩
    have v1 := v1 (by omega)
    have k0 := fun i => cell_kept hg3 hlt2 i
    have hz3 := (hg3.block w.heap.size (by simp; omega) (by intro e; injection e; omega)).trans ((Below.heap_alloc wo _ w.heap.size hs1).trans hz2)
    have hgw3 : w.grownBy w3 (some g) := grown_trans hgw1 (grown_trans (grown_alloc wo _ _) hg3)
    obtain ⟨j, rfl⟩ : ∃ j : Nat, v = j := ⟨v.toNat, by omega⟩
    have hj : j < 5 := by omega
    obtain ⟨⟨kind, num, ⟨na, ho⟩, what⟩, hsh, e0, e1, e2, e3, e4⟩ := lit_ays j hj
    have d0 := (k0 (j * 5)).trans e0
    have d1 := (k0 (j * 5 + 1)).trans e1
    have d2 := (k0 (j * 5 + 2)).trans e2
    have d3 := (k0 (j * 5 + 3)).trans e3
    have d4 := (k0 (j * 5 + 4)).trans e4
    simp only at d0 d1 d2 d3 d4
    have hj0 : (0 : Int) ≤ (j : Int) := by omega
    have hj4 : (j : Int) < 5 := by omega
    have c0 := cell_of_row w3 w.heap.size 0 _ _ (0, 0) hz3
    have c1 := cell_of_row w3 w.heap.size 1 _ _ (0, 0) hz3
    have c2 := cell_of_row w3 w.heap.size 2 _ _ (0, 0) hz3
    have c3 := cell_of_row w3 w.heap.size 3 _ _ (0, 0) hz3
    have c4 := cell_of_row w3 w.heap.size 4 _ _ (0, 0) hz3
    have f0 : ∀ j, w3.frozen? ⟨w.heap.size, j, none⟩ = false := fun j => by simp [World.frozen?, hz3]
    have HSH := Lib.hid hsh
    have HR := Lib.hid (((((hr3.grown (only_setCell' w3 w.heap.size 0 (.int .i64 kind)) (by intro e; injection e; omega) (by intro k hk; injection hk; omega)).grown (only_setCell' _ w.heap.size 1 (.int .i64 num)) (by intro e; injection e; omega) (by intro k hk; injection hk; omega)).grown (only_setCell' _ w.heap.size 2 (.string na)) (by intro e; injection e; omega) (by intro k hk; injection hk; omega)).grown (only_setCell' _ w.heap.size 3 (.string ho)) (by intro e; injection e; omega) (by intro k hk; injection hk; omega)).grown (only_setCell' _ w.heap.size 4 (.string what)) (by intro e; injection e; omega) (by intro k hk; injection hk; omega))
    have HG := Lib.hid (gs_setY (gs_setY (gs_setY (gs_setY (gs_setY hgw3 (Nat.le_refl w.heap.size) 0 (.int .i64 kind)) (Nat.le_refl w.heap.size) 1 (.int .i64 num)) (Nat.le_refl w.heap.size) 2 (.string na)) (Nat.le_refl w.heap.size) 3 (.string ho)) (Nat.le_refl w.heap.size) 4 (.string what))
    clear k0 hg3 hr3 hgw3 e0 e1 e2 e3 e4 hsh hr2 hz2 hz1 hr1 hgw1 hgw0 hz3
    go_wp2
    refine bodyPost_ret (v := .agg #[.int .i64 kind, .int .i64 num, .string na, .string ho, .string what]) (by simp [results, Try.results11, go_sem, c0, c1, c2, c3, c4]) rfl ⟨⟨kind, num, ⟨na, ho⟩, what⟩, rfl, HSH.out, HR.out.more (by omega), HG.out⟩
  | false =>
    go_wp2_with fail
    refine (pick_any W _ g (m + 1) 6 hr2 (by omega)).mono ?_
    rintro e w4 ⟨v1, p0, p1, _, rfl, hr4, hg4⟩
    have p1 := p1 (by omega)
    have hz4 := (hg4.block w.heap.size hs1 (by intro e; injection e; omega)).trans hz2
    have hgw4 : w.grownBy w4 (some g) := grown_trans hgw1 hg4
    have hs4 : w.heap.size < w4.heap.size := Nat.lt_of_lt_of_le hs1 hg4.size
    go_wp2_with fail
    refine (pick_any W _ g (m + 1 + 1) 12 hr4 (by omega)).mono ?_
    rintro e w5 ⟨v2, q0, q1, _, rfl, hr5, hg5⟩
    have q1 := q1 (by omega)
    have hz5 := (hg5.block w.heap.size hs4 (by intro e; injection e; omega)).trans hz4
    have hgw5 : w.grownBy w5 (some g) := grown_trans hgw4 hg5
    have hs5 : w.heap.size < w5.heap.size := Nat.lt_of_lt_of_le hs4 hg5.size
    go_wp2_with fail
    refine (handA_draw W _ g (m + 1 + 1 + 1) 0 hr5 (by omega) (by omega) (by omega)).mono ?_
    rintro e w6 ⟨⟨na, ho⟩, rfl, hsy, hr6, hg6⟩
    have hz6 := (hg6.block w.heap.size hs5 (by intro e; injection e; omega)).trans hz5
    have hgw6 : w.grownBy w6 (some g) := grown_trans hgw5 hg6
    have hs6 : w.heap.size < w6.heap.size := Nat.lt_of_lt_of_le hs5 hg6.size
    have hlt6 := hr6.lt
    simp only [aggHn]
    go_wp2_with fail
    refine (pick_any W _ g (m + 1 + 1 + 1 + 6) 3 (hr6.alloc _) (by omega)).mono ?_
    rintro e w3 ⟨v, v0, v1', _, rfl, hr3, hg3⟩
    have v1' := v1' (by omega)
    have k0 := fun i => cell_kept hg3 hlt6 i
    have hz3 := (hg3.block w.heap.size (by simp; omega) (by intro e; injection e; omega)).trans ((Below.heap_alloc w6 _ w.heap.size hs6).trans hz6)
    have hgw3 : w.grownBy w3 (some g) := grown_trans hgw6 (grown_trans (grown_alloc w6 _ _) hg3)
    obtain ⟨j, rfl⟩ : ∃ j : Nat, v = j := ⟨v.toNat, by omega⟩
    have hj : j < 3 := by omega
    obtain ⟨what, hsw, e0⟩ := lit_k j hj
    have d0 := (k0 j).trans e0
    have hj0 : (0 : Int) ≤ (j : Int) := by omega
    have hj4 : (j : Int) < 3 := by omega
    obtain ⟨kind, hkind⟩ : ∃ kind, v1 = kind := ⟨_, rfl⟩
    obtain ⟨num, hnum⟩ : ∃ num, v2 = num := ⟨_, rfl⟩
    subst hkind
    subst hnum
    have hsh : ShAy ⟨v1, v2, ⟨na, ho⟩, what⟩ := ⟨⟨by show _ ≤ v1; omega, by show v1 ≤ _; omega⟩, ⟨by show _ ≤ v2; omega, by show v2 ≤ _; omega⟩, hsy, hsw⟩
    have c0 := cell_of_row w3 w.heap.size 0 _ _ (0, 0) hz3
    have c1 := cell_of_row w3 w.heap.size 1 _ _ (0, 0) hz3
    have c2 := cell_of_row w3 w.heap.size 2 _ _ (0, 0) hz3
    have c3 := cell_of_row w3 w.heap.size 3 _ _ (0, 0) hz3
    have c4 := cell_of_row w3 w.heap.size 4 _ _ (0, 0) hz3
    have f0 : ∀ j, w3.frozen? ⟨w.heap.size, j, none⟩ = false := fun j => by simp [World.frozen?, hz3]
    have HSH := Lib.hid hsh
    have HR := Lib.hid (((((hr3.grown (only_setCell' w3 w.heap.size 0 (.int .i64 v1)) (by intro e; injection e; omega) (by intro k hk; injection hk; omega)).grown (only_setCell' _ w.heap.size 1 (.int .i64 v2)) (by intro e; injection e; omega) (by intro k hk; injection hk; omega)).grown (only_setCell' _ w.heap.size 2 (.string na)) (by intro e; injection e; omega) (by intro k hk; injection hk; omega)).grown (only_setCell' _ w.heap.size 3 (.string ho)) (by intro e; injection e; omega) (by intro k hk; injection hk; omega)).grown (only_setCell' _ w.heap.size 4 (.string what)) (by intro e; injection e; omega) (by intro k hk; injection hk; omega))
    have HG := Lib.hid (gs_setY (gs_setY (gs_setY (gs_setY (gs_setY hgw3 (Nat.le_refl w.heap.size) 0 (.int .i64 v1)) (Nat.le_refl w.heap.size) 1 (.int .i64 v2)) (Nat.le_refl w.heap.size) 2 (.string na)) (Nat.le_refl w.heap.size) 3 (.string ho)) (Nat.le_refl w.heap.size) 4 (.string what))
    clear k0 hg3 hr3 hgw3 e0 hsh hr2 hz2 hz1 hr1 hgw1 hgw0 hz3 hz4 hz5 hz6 hgw4 hgw5 hgw6 hg4 hg5 hg6 hr4 hr5 hr6
    go_wp2
    refine bodyPost_ret (v := .agg #[.int .i64 v1, .int .i64 v2, .string na, .string ho, .string what]) (by simp [results, Try.results11, go_sem, c0, c1, c2, c3, c4]) rfl ⟨⟨v1, v2, ⟨na, ho⟩, what⟩, rfl, HSH.out, HR.out.more (by omega), HG.out⟩
def DrawnAy (w : World) (e : Ending) (w' : World) : Prop := ∃ y : Ay, e = .returned (aggAy y) ∧ ShAy y ∧ Below w.heap.size w w'
theorem frzY {w w1 wX : World} {cs : Array Value} {T : TypeId} (hw : w.alloc (.cells cs T) = w1) (hB : Below w1.heap.size w1 wX) : ∀ j, wX.frozen? ⟨w.heap.size, j, none⟩ = false := fun j => by
  subst hw
  have hX := (hB.block w.heap.size (by simp)).trans (heap_alloc_new w (.cells cs T))
  simp [World.frozen?, hX]
set_option maxRecDepth 100000 in
set_option maxHeartbeats 1000000 in
theorem drawAyT_any (w : World) (A : Option Addr) (n c : Nat) (h : CodeArg w A n c) : Calls Try.prog 4 #[.slice A n c] w (DrawnAy w) := by
  obtain ⟨w1, hw1⟩ : ∃ w1, w.alloc (.cells #[.int .i64 0, .int .i64 0, .string ⟨#[]⟩, .string ⟨#[]⟩, .string ⟨#[]⟩] 26) = w1 := ⟨_, rfl⟩
  have hb1 : Below w.heap.size w w1 := by rw [← hw1]; exact (Below.refl _ _).alloc (Nat.le_refl _) _
  have h1 := codeArg_below h hb1
  have hres := Lib.hid (fun wX (hX : Below w1.heap.size w1 wX) => row5 hw1 hX)
  have hfr := Lib.hid (fun wX (hX : Below w1.heap.size w1 wX) => frzY hw1 hX)
  have hrf : Hid (w.heap.size ≤ w.heap.size) := Lib.hid (Nat.le_refl _)
  go_enter Try.func4, Try.ntmps4
  go_wp2_with (go_at_call 12; refine (open_any w1 A n c h1).mono ?_; rintro e w2 ⟨rfl, hr2⟩)
  have hw1 := Lib.hid hw1
  refine (ay_draw w1 w2 w1.heap.size 0 6 hr2 (by omega) (by omega) (by omega)).mono ?_
  rintro e w3 ⟨⟨kind, num, ⟨na, ho⟩, what⟩, rfl, hsh, hr3, hg3⟩
  simp only [aggAy]
  have hb3 := hr3.bel
  obtain ⟨c0, c1, c2, c3, c4⟩ := hres.out w3 hb3
  have cf := hfr.out w3 hb3
  have HW := Lib.hid (below_trans' hb1 hb3)
  clear hb3 hr3 hg3 hr2
  go_wp2
  refine bodyPost_ret (v := .agg #[.int .i64 kind, .int .i64 num, .string na, .string ho, .string what]) (by simp [results, Try.results4, go_sem, c0, c1, c2, c3, c4]) rfl ⟨⟨kind, num, ⟨na, ho⟩, what⟩, rfl, hsh, ?_⟩
  repeat (first | with_reducible exact HW.out | with_reducible refine Below.setCell ?_ hrf.out _)
/-- what the operations of the region yield -/
def QUn (B g : Nat) (kind num : Int) (na ho what : ByteArray) (j : Nat) (v : Value) (w : World) : Prop :=
  match j with
  | 0 => v = .agg #[.int .i64 kind, .int .i64 num, .string na, .string ho, .string what]
  | 1 => v = .pointer (some ⟨g, 0, none⟩)
  | 2 => ∃ z : Int, v = .int .i64 z
  | 3 => ∃ z : Int, RowAt B g 3 #[.int .i64 z, .int .i64 1000000001, .int .i64 (-1)] v w
  | 4 => RowAt B g 6 #[.int .i64 0, .int .i64 0, .int .i64 0, .int .i64 0, .int .i64 1, .int .i64 2] v w
  | 5 => v = .pointer (some ⟨g, 0, none⟩)
  | 6 => ∃ z : Nat, v = .int .i64 z ∧ z < 6
  | 7 => ∃ z : Nat, z < 3 ∧ CelAt B g (.int .i64 z) v w
  | 8 => ∃ z : Nat, z < 3 ∧ v = .int .i64 z
  | 9 => ∃ z : Int, CelAt B g (.int .i64 z) v w
  | 10 => ∃ z : Int, v = .int .i64 z
  | 11 => True
  | 12 => ∃ z : Int, v = .int .i64 z
  | _ => False
theorem QUn_mono {B g q : Nat} (hq : q < B) {kind num : Int} {na ho what : ByteArray} (j : Nat) (v : Value) (w w' : World) (_ : j < 13) (h : QUn B g kind num na ho what j v w) (hk : Kp g q w w') : QUn B g kind num na ho what j v w' := by
  match j, h with
  | 0, h => exact h
  | 1, h => exact h
  | 2, h => exact h
  | 3, h => obtain ⟨z, h⟩ := h; exact ⟨z, h.keep hq hk⟩
  | 4, h => exact RowAt.keep h hq hk
  | 5, h => exact h
  | 6, h => exact h
  | 7, h => obtain ⟨z, hz, h⟩ := h; exact ⟨z, hz, h.keep hq hk⟩
  | 8, h => exact h
  | 9, h => obtain ⟨z, h⟩ := h; exact ⟨z, h.keep hq hk⟩
  | 10, h => exact h
  | 11, h => exact h
  | 12, h => exact h
theorem un3 (j : Nat) (h : j < 3) (z : Int) : ∃ u : Int, (#[Value.int .i64 z, .int .i64 1000000001, .int .i64 (-1)] : Array Value)[j]? = some (.int .i64 u) := by
  obtain rfl | rfl | rfl : j = 0 ∨ j = 1 ∨ j = 2 := by omega
  · exact ⟨_, rfl⟩
  · exact ⟨_, rfl⟩
  · exact ⟨_, rfl⟩
theorem un6 (j : Nat) (h : j < 6) : ∃ u : Nat, u < 3 ∧ (#[Value.int .i64 0, .int .i64 0, .int .i64 0, .int .i64 0, .int .i64 1, .int .i64 2] : Array Value)[j]? = some (.int .i64 u) := by
  obtain rfl | rfl | rfl | rfl | rfl | rfl : j = 0 ∨ j = 1 ∨ j = 2 ∨ j = 3 ∨ j = 4 ∨ j = 5 := by omega
  · exact ⟨0, by omega, rfl⟩
  · exact ⟨0, by omega, rfl⟩
  · exact ⟨0, by omega, rfl⟩
  · exact ⟨0, by omega, rfl⟩
  · exact ⟨1, by omega, rfl⟩
  · exact ⟨2, by omega, rfl⟩
def DrawnAyI (w : World) (e : Ending) (w' : World) : Prop := ∃ (y : Ay) (n : Int), e = .returned (.tuple #[aggAy y, .int .i64 n]) ∧ ShAy y ∧ Below w.heap.size w w'
/-- the world of the region: the reader, the local variable bv, the result's variable -/
def UnG (w : World) (g bv B : Nat) (row zero : Array Value) (T : TypeId) (f : Nat → Bool) (wx : World) : Prop :=
  SetG w g 10 [(2, 1), (6, 1)] B f wx ∧ wx.heap[bv]? = some (.cells row T (0, 0)) ∧ wx.heap[w.heap.size]? = some (.cells (if f 11 then row else zero) T (0, 0))
theorem UnG.step {w : World} {g bv B : Nat} {row zero : Array Value} {T : TypeId} {f : Nat → Bool} {wx : World} (h : UnG w g bv B row zero T f wx) {i : Nat} (hi : i ≠ 11) : UnG w g bv B row zero T (upd f i) wx :=
  ⟨h.1.step i, h.2.1, by rw [upd_ne (Ne.symm hi)]; exact h.2.2⟩
theorem UnG.alloc {w : World} {g bv B : Nat} {row zero : Array Value} {T : TypeId} {f : Nat → Bool} {wx : World} (h : UnG w g bv B row zero T f wx) (o : Obj) {i : Nat} (hi : i ≠ 11) : UnG w g bv B row zero T (upd f i) (wx.alloc o) :=
  ⟨h.1.alloc o i, by rw [Below.heap_alloc _ _ _ (Array.getElem?_eq_some_iff.1 h.2.1).1]; exact h.2.1, by rw [Below.heap_alloc _ _ _ (Array.getElem?_eq_some_iff.1 h.2.2).1, upd_ne (Ne.symm hi)]; exact h.2.2⟩
theorem UnG.call {w : World} {g bv B : Nat} {row zero : Array Value} {T : TypeId} {f : Nat → Bool} {wx w' : World} (h : UnG w g bv B row zero T f wx) {i c : Nat} (hi : (i, c) ∈ [(2, 1), (6, 1)]) (hf : f i = false) (hr : Rd w w' g (10 + costF [(2, 1), (6, 1)] f + c)) (hg : wx.grownBy w' (some g)) (h11 : i ≠ 11) (hbv : bv ≠ g) (hq : w.heap.size ≠ g) : UnG w g bv B row zero T (upd f i) w' :=
  ⟨h.1.call hi hf hr hg, by rw [hg.block _ (Array.getElem?_eq_some_iff.1 h.2.1).1 (by intro e; injection e; omega)]; exact h.2.1, by rw [hg.block _ (Array.getElem?_eq_some_iff.1 h.2.2).1 (by intro e; injection e; omega), upd_ne (Ne.symm h11)]; exact h.2.2⟩
end Go.Proofs.Ytolkgamfoopnjaa
