/-
  The verifier's own text: DAct DAct2.
-/
import Derived.Test.YtacapigdfabiiaaRows
import Derived.Test.YtacapigdfabiiaaGs
import Derived.Test.YtacapigdfabiiaaHC
import Derived.Test.YtacapigdfabiiaaHA
import Derived.Test.YtacapigdfabiiaaHD
import Derived.WalkKit
import Derived.ProofKit
import Derived.Below
import Derived.Lib.Hide
import Derived.Outline
import Derived.BigQuiet
import Derived.Deep.QuietTactic
import Derived.Deep.Draws
import Derived.Laws.OwnMore
import Derived.Laws.Rows
import Derived.WalkSpells
import Derived.Deep.RegionWith
namespace Go.Proofs.Ytacapigdfabiiaa
open Go.RowKit
set_option linter.unusedVariables false
/-- an actor that was drawn, and the reader -/
def DrewAc (W w : World) (g m : Nat) (e : Ending) (w' : World) : Prop := ∃ y : Ac, e = .returned (aggAc y) ∧ ShAc y ∧ Rd W w' g m ∧ w.grownBy w' (some g)
/-- a store into new memory -/
theorem gs_set {a w : World} {row : Option Nat} (h : a.grownBy w row) {b : Nat} (hb : a.heap.size ≤ b) (j : Nat) (u : Value) : a.grownBy (w.setCell ⟨b, j, none⟩ u) row :=
  ⟨h.os, h.tape, h.output, Nat.le_trans h.size (by simp [World.setCell]), fun k hk hne => (Below.heap_setCell w ⟨b, j, none⟩ u k (by intro e; have : k = b := e; omega)).trans (h.block k hk hne)⟩
/-- what the operations of the region yield -/
def QAc (B g : Nat) (n : Int) (j : Nat) (v : Value) (w : World) : Prop :=
  match j with
  | 0 => v = .pointer (some ⟨g, 0, none⟩)
  | 1 => StrIs 9 v
  | 2 => ∃ cs : Array Value, cs.size = 5 ∧ ShortRow 2 cs ∧ LitAt B g 5 cs v w
  | 3 => v = .pointer (some ⟨g, 0, none⟩)
  | 4 => IntUp 5 v
  | 5 => StrAt g 2 v w
  | 6 => StrIs 2 v
  | 7 => v = .pointer (some ⟨g, 0, none⟩)
  | 8 => IntUp 9 v
  | 9 => ∃ y : Ac, v = aggAc y ∧ ShAc y
  | _ => False
theorem QAc_mono {B g : Nat} {n : Int} (j : Nat) (v : Value) (w w' : World) (_ : j < 10) (h : QAc B g n j v w) (hg : w.grownBy w' (some g)) : QAc B g n j v w' := by
  match j, h with
  | 0, h => exact h
  | 1, h => exact h
  | 2, h => obtain ⟨cs, h1, h2, h3⟩ := h; exact ⟨cs, h1, h2, LitAt.mono h3 hg⟩
  | 3, h => exact h
  | 4, h => exact h
  | 5, h => exact StrAt.mono h hg
  | 6, h => exact h
  | 7, h => exact h
  | 8, h => exact h
  | 9, h => exact h
def FinAc (W w0 : World) (g m : Nat) (Fr : (Nat → Value) → Act) (a : Act) (w' : World) : Prop := ∃ (x : Nat → Value) (y : Ac), a = Fr x ∧ w'.heap[w0.heap.size]? = some (.cells #[.string y.name, .string y.feed, .int .i64 y.sign] 33 (0, 0)) ∧ ShAc y ∧ Rd W w' g m ∧ w0.grownBy w' (some g)
theorem lit_acs (j : Nat) (h : j < 4) : ∃ y : Ac, ShAc y ∧ (#[Value.string ⟨#[]⟩, .string ⟨#[]⟩, .int .i64 0, .string ⟨#[65]⟩, .string ⟨#[102]⟩, .int .i64 0, .string ⟨#[122]⟩, .string ⟨#[70]⟩, .int .i64 0, .string ⟨#[122]⟩, .string ⟨#[102]⟩, .int .i64 (-1)] : Array Value)[j * 3]? = some (.string y.name) ∧
    (#[Value.string ⟨#[]⟩, .string ⟨#[]⟩, .int .i64 0, .string ⟨#[65]⟩, .string ⟨#[102]⟩, .int .i64 0, .string ⟨#[122]⟩, .string ⟨#[70]⟩, .int .i64 0, .string ⟨#[122]⟩, .string ⟨#[102]⟩, .int .i64 (-1)] : Array Value)[j * 3 + 1]? = some (.string y.feed) ∧
    (#[Value.string ⟨#[]⟩, .string ⟨#[]⟩, .int .i64 0, .string ⟨#[65]⟩, .string ⟨#[102]⟩, .int .i64 0, .string ⟨#[122]⟩, .string ⟨#[70]⟩, .int .i64 0, .string ⟨#[122]⟩, .string ⟨#[102]⟩, .int .i64 (-1)] : Array Value)[j * 3 + 2]? = some (.int .i64 y.sign) := by
  obtain rfl | rfl | rfl | rfl : j = 0 ∨ j = 1 ∨ j = 2 ∨ j = 3 := by omega
  · exact ⟨⟨⟨#[]⟩, ⟨#[]⟩, 0⟩, ⟨by unfold ShS; decide, by unfold ShS; decide, by unfold ShI; decide⟩, rfl, rfl, rfl⟩
  · exact ⟨⟨⟨#[65]⟩, ⟨#[102]⟩, 0⟩, ⟨by unfold ShS; decide, by unfold ShS; decide, by unfold ShI; decide⟩, rfl, rfl, rfl⟩
  · exact ⟨⟨⟨#[122]⟩, ⟨#[70]⟩, 0⟩, ⟨by unfold ShS; decide, by unfold ShS; decide, by unfold ShI; decide⟩, rfl, rfl, rfl⟩
  · exact ⟨⟨⟨#[122]⟩, ⟨#[102]⟩, -1⟩, ⟨by unfold ShS; decide, by unfold ShS; decide, by unfold ShI; decide⟩, rfl, rfl, rfl⟩
set_option maxRecDepth 100000 in
set_option maxHeartbeats 8000000 in
theorem actor_draw (W w : World) (g m : Nat) (n : Int) (h : Rd W w g m) (hm : m ≤ 700000) (hn1 : -1000000 ≤ n) (hn2 : n ≤ 1000000) :
    Calls Try.prog 55 #[.pointer (some ⟨g, 0, none⟩), .int .i64 n] w (DrewAc W w g (m + 5)) := by
  have hlt := h.lt
  have hlo := h.lo
  have hWw : W.heap.size ≤ w.heap.size := h.bel.size
  obtain ⟨w1, hw1⟩ : ∃ w1, w.alloc (.cells #[.string ⟨#[]⟩, .string ⟨#[]⟩, .int .i64 0] 33) = w1 := ⟨_, rfl⟩
  have hr1 : Rd W w1 g m := by rw [← hw1]; exact h.alloc _
  have hz1 : w1.heap[w.heap.size]? = some (.cells #[.string ⟨#[]⟩, .string ⟨#[]⟩, .int .i64 0] 33 (0, 0)) := by rw [← hw1]; exact heap_alloc_new w _
  have hgw0 : w.grownBy w1 (some g) := by rw [← hw1]; exact grown_alloc w _ _
  have hs0 : w.heap.size < w1.heap.size := by rw [← hw1]; simp
  go_enter Try.func55, Try.ntmps55
  go_wp2_with fail
  have hw1 := Lib.hid hw1
  refine (odd_any W _ g m n hr1 (by omega) hn1 hn2).mono ?_
  rintro e wo ⟨b, rfl, hr2, hg2⟩
  have hz2 : wo.heap[w.heap.size]? = some (.cells #[.string ⟨#[]⟩, .string ⟨#[]⟩, .int .i64 0] 33 (0, 0)) := (hg2.block w.heap.size hs0 (by intro e; injection e; omega)).trans hz1
  have hgw1 : w.grownBy wo (some g) := grown_trans hgw0 hg2
  have hs1 : w.heap.size < wo.heap.size := Nat.lt_of_lt_of_le hs0 hg2.size
  clear hg2
  cases b with
  | false =>
    go_wp2
    obtain ⟨Fr, hFr⟩ : ∃ Fr : (Nat → Value) → Act, Fr = (fun x => { tmps := #[.pointer (some ⟨g, 0, none⟩), .int .i64 n, undef, undef, .pointer (some ⟨w.heap.size, 0, none⟩), .pointer (some ⟨g, 0, none⟩), .int .i64 n, .bool false, undef, undef, undef, undef, undef, undef, undef, undef, undef, x 0, x 1, x 2, x 3, x 4, x 5, x 6, x 7, x 8, x 9], defers := [] }) := ⟨_, rfl⟩
    refine draw_region (n := 10) (by kernel_rfl) rfl W g (m + 1) [(1, 2), (4, 1), (8, 1)] Fr
      (QAc wo.heap.size g n) (FinAc W w g ((m + 1) + 4) Fr) (by kernel_rfl) (by kernel_rfl) (fun _ => undef) (by rw [hFr]) hr2 QAc_mono ?_ ?_ ?_
    · intro i o f x w2 hi ho hf hp hG hQ K hK
      subst hFr
      have hB : wo.heap.size ≤ w2.heap.size := hG.gr.size
      have hcost := cost_all [(1, 2), (4, 1), (8, 1)] f
      have hca : costAll [(1, 2), (4, 1), (8, 1)] = 4 := rfl
      obtain rfl | rfl | rfl | rfl | rfl | rfl | rfl | rfl | rfl | rfl : i = 0 ∨ i = 1 ∨ i = 2 ∨ i = 3 ∨ i = 4 ∨ i = 5 ∨ i = 6 ∨ i = 7 ∨ i = 8 ∨ i = 9 := by omega
      · simp at ho
        subst ho
        rw [if_pos (by rfl)]
        go_simp
        exact hK _ _ rfl (grown_refl _ _) (hG.step 0)
      · simp at ho
        subst ho
        have p0 : f 0 = true := hp { on := 0, ground := .data } (by simp) rfl
        have q0 := hQ 0 (by omega) p0
        have q0 : x 0 = .pointer (some ⟨g, 0, none⟩) := q0
        rw [if_pos (by rfl)]
        go_simp
        refine (word_draw W _ g ((m + 1) + costF [(1, 2), (4, 1), (8, 1)] f) 0 hG.rd' (by omega) (by omega) (by omega)).mono ?_
        rintro e w' ⟨s, hs, rfl, hr', hg'⟩
        have key := hK _ _ ⟨s, rfl, hs⟩ hg' (hG.call (i := 1) (c := 2) (by simp) hf hr' hg')
        simp [setX, q0] at key
        exact key
      · simp at ho
        subst ho
        rw [if_pos (by rfl)]
        go_simp
        have hsr : ShortRow 2 #[.string ⟨#[102, 49]⟩, .string ⟨#[102, 50]⟩, .string ⟨#[102, 51]⟩, .string ⟨#[102, 52]⟩, .string ⟨#[102, 53]⟩] := by
          intro j h
          have h' : j < 5 := h
          obtain rfl | rfl | rfl | rfl | rfl : j = 0 ∨ j = 1 ∨ j = 2 ∨ j = 3 ∨ j = 4 := by omega
          all_goals first | exact ⟨_, rfl, by decide⟩ | exact ⟨_, rfl, by omega⟩
        have key := hK (.slice (some ⟨w2.heap.size, 0, none⟩) 5 5) (w2.alloc (.cells #[.string ⟨#[102, 49]⟩, .string ⟨#[102, 50]⟩, .string ⟨#[102, 51]⟩, .string ⟨#[102, 52]⟩, .string ⟨#[102, 53]⟩] 9)) ⟨#[.string ⟨#[102, 49]⟩, .string ⟨#[102, 50]⟩, .string ⟨#[102, 51]⟩, .string ⟨#[102, 52]⟩, .string ⟨#[102, 53]⟩], rfl, hsr, LitAt.new hB hG.lt⟩ (grown_alloc _ _ _) (hG.alloc _ 2)
        simp [setX] at key
        exact key
      · simp at ho
        subst ho
        rw [if_pos (by rfl)]
        go_simp
        exact hK _ _ rfl (grown_refl _ _) (hG.step 3)
      · simp at ho
        subst ho
        have p3 : f 3 = true := hp { on := 3, ground := .data } (by simp) rfl
        have q3 := hQ 3 (by omega) p3
        have q3 : x 3 = .pointer (some ⟨g, 0, none⟩) := q3
        rw [if_pos (by rfl)]
        go_simp
        refine (pick_any W _ g ((m + 1) + costF [(1, 2), (4, 1), (8, 1)] f) 5 hG.rd' (by omega)).mono ?_
        rintro e w' ⟨v, v0, v1, _, rfl, hr', hg'⟩
        have key := hK _ _ ⟨v, rfl, v0, v1 (by omega)⟩ hg' (hG.call (i := 4) (c := 1) (by simp) hf hr' hg')
        simp [setX, q3] at key
        exact key
      · simp at ho
        subst ho
        have p2 : f 2 = true := hp { on := 2, ground := .data } (by simp) rfl
        have q2 := hQ 2 (by omega) p2
        have p4 : f 4 = true := hp { on := 4, ground := .data } (by simp) rfl
        have q4 := hQ 4 (by omega) p4
        obtain ⟨cs, hcs, hsr, hla⟩ := q2
        obtain ⟨z, hz, z0, z1⟩ := q4
        obtain ⟨b, hb, hs⟩ := LitAt.at hla hsr hcs z0 z1
        rw [if_pos (by rfl)]
        go_simp
        have key := hK _ _ hs (grown_refl _ _) (hG.step 5)
        simp [setX, hz, hb] at key
        exact key
      · simp at ho
        subst ho
        have p5 : f 5 = true := hp { on := 5, ground := .data } (by simp) rfl
        have q5 := hQ 5 (by omega) p5
        obtain ⟨b, j, s, hx, _, _, hc, hs⟩ := q5
        rw [if_pos (by rfl)]
        go_simp
        have key := hK _ _ ⟨s, rfl, hs⟩ (grown_refl _ _) (hG.step 6)
        simp [setX, hx] at key
        exact key
      · simp at ho
        subst ho
        rw [if_pos (by rfl)]
        go_simp
        exact hK _ _ rfl (grown_refl _ _) (hG.step 7)
      · simp at ho
        subst ho
        have p7 : f 7 = true := hp { on := 7, ground := .data } (by simp) rfl
        have q7 := hQ 7 (by omega) p7
        have q7 : x 7 = .pointer (some ⟨g, 0, none⟩) := q7
        rw [if_pos (by rfl)]
        go_simp
        refine (pick_any W _ g ((m + 1) + costF [(1, 2), (4, 1), (8, 1)] f) 9 hG.rd' (by omega)).mono ?_
        rintro e w' ⟨v, v0, v1, _, rfl, hr', hg'⟩
        have key := hK _ _ ⟨v, rfl, v0, v1 (by omega)⟩ hg' (hG.call (i := 8) (c := 1) (by simp) hf hr' hg')
        simp [setX, q7] at key
        exact key
      · simp at ho
        subst ho
        have p1 : f 1 = true := hp { on := 1, ground := .data } (by simp) rfl
        have q1 := hQ 1 (by omega) p1
        obtain ⟨s1, h1, l1⟩ := q1
        have p6 : f 6 = true := hp { on := 6, ground := .data } (by simp) rfl
        have q6 := hQ 6 (by omega) p6
        obtain ⟨s6, h6, l6⟩ := q6
        have p8 : f 8 = true := hp { on := 8, ground := .data } (by simp) rfl
        have q8 := hQ 8 (by omega) p8
        obtain ⟨z8, h8, l8, m8⟩ := q8
        rw [if_pos (by rfl)]
        go_simp
        have key := hK _ _ ⟨⟨s1, s6, z8⟩, rfl, (show ShS s1 from by unfold ShS; first | decide | omega), (show ShS s6 from by unfold ShS; first | decide | omega), (show ShI z8 from ⟨by omega, by omega⟩)⟩ (grown_refl _ _) (hG.step 9)
        simp [setX, aggAc, h1, h6, h8] at key ⊢
        exact key
    · intro o f x w2 ho hp hG hQ K hK
      subst hFr
      have hcost := cost_all [(1, 2), (4, 1), (8, 1)] f
      have hca : costAll [(1, 2), (4, 1), (8, 1)] = 4 := rfl
      simp at ho
      subst ho
      have p9 : f 9 = true := hp { on := 9, ground := .data } (by simp) rfl
      obtain ⟨y, hb0, ly⟩ := hQ 9 (by omega) p9
      obtain ⟨name, feed, sign⟩ := y
      have hrow : w2.heap[w.heap.size]? = some (.cells #[.string ⟨#[]⟩, .string ⟨#[]⟩, .int .i64 0] 33 (0, 0)) := by
        rw [hG.gr.block w.heap.size (by show _ < wo.heap.size; omega) (by intro e; injection e; omega)]; exact hz2
      have c0 := cell_of_row w2 w.heap.size 0 _ _ (0, 0) hrow
      have c1 := cell_of_row w2 w.heap.size 1 _ _ (0, 0) hrow
      have c2 := cell_of_row w2 w.heap.size 2 _ _ (0, 0) hrow
      have f0 : ∀ j, w2.frozen? ⟨w.heap.size, j, none⟩ = false := fun j => by simp [World.frozen?, hrow]
      have g0 := heap_setCell_same w2 w.heap.size 0 _ _ (.string name) hrow
      have g1 := heap_setCell_same _ w.heap.size 1 _ _ (.string feed) g0
      have g2 := heap_setCell_same _ w.heap.size 2 _ _ (.int .i64 sign) g1
      have GR := Lib.hid g2
      have HD : DrawG W w g (m + 1) [(1, 2), (4, 1), (8, 1)] f w2 := ⟨hG.rd, grown_trans hgw1 ⟨hG.gr.os, hG.gr.tape, hG.gr.output, hG.gr.size, hG.gr.block⟩⟩
      have HG := Lib.hid (((HD.store (b := w.heap.size) (Nat.le_refl _) (by omega) hWw 0 (.string name)).store (b := w.heap.size) (Nat.le_refl _) (by omega) hWw 1 (.string feed)).store (b := w.heap.size) (Nat.le_refl _) (by omega) hWw 2 (.int .i64 sign))
      clear g0 g1 g2 HD
      have hb : x 9 = .agg #[.string name, .string feed, .int .i64 sign] := hb0
      clear hb0
      rw [if_pos (by rfl)]
      go_simp
      refine hK _ _ ⟨x, ⟨name, feed, sign⟩, ?_, ?_, ly, HG.out.rd'.more (by omega), HG.out.gr⟩
      · simp [hb]
      · exact GR.out
    · rintro a w3 ⟨x, y, rfl, hrow, ly, hr3, hg3⟩
      subst hFr
      obtain ⟨name, feed, sign⟩ := y
      have r0 := cell_of_row w3 w.heap.size 0 _ _ (0, 0) hrow
      have r1 := cell_of_row w3 w.heap.size 1 _ _ (0, 0) hrow
      have r2 := cell_of_row w3 w.heap.size 2 _ _ (0, 0) hrow
      go_wp2
      refine bodyPost_ret (v := .agg #[.string name, .string feed, .int .i64 sign]) (by simp [results, Try.results55, go_sem, r0, r1, r2]) rfl ⟨⟨name, feed, sign⟩, rfl, ly, hr3, hg3⟩
  | true =>
    have hlt2 := hr2.lt
    go_wp2_with fail
    refine (pick_any W _ g (m + 1) 4 (hr2.alloc _) (by omega)).mono ?_
    rintro e w3 ⟨v, v0, v1, _, rfl, hr3, hg3⟩
    have v1 := v1 (by omega)
    have k0 := fun i => cell_kept hg3 hlt2 i
    have hz3 := (hg3.block w.heap.size (by simp; omega) (by intro e; injection e; omega)).trans ((Below.heap_alloc wo _ w.heap.size hs1).trans hz2)
    have hgw3 : w.grownBy w3 (some g) := grown_trans hgw1 (grown_trans (grown_alloc wo _ _) hg3)
    obtain ⟨j, rfl⟩ : ∃ j : Nat, v = j := ⟨v.toNat, by omega⟩
    have hj : j < 4 := by omega
    obtain ⟨⟨name, feed, sign⟩, hsh, e0, e1, e2⟩ := lit_acs j hj
    have d0 := (k0 (j * 3)).trans e0
    have d1 := (k0 (j * 3 + 1)).trans e1
    have d2 := (k0 (j * 3 + 2)).trans e2
    simp only at d0 d1 d2
    have c0 := cell_of_row w3 w.heap.size 0 _ _ (0, 0) hz3
    have c1 := cell_of_row w3 w.heap.size 1 _ _ (0, 0) hz3
    have c2 := cell_of_row w3 w.heap.size 2 _ _ (0, 0) hz3
    have f0 : ∀ j, w3.frozen? ⟨w.heap.size, j, none⟩ = false := fun j => by simp [World.frozen?, hz3]
    have hj0 : (0 : Int) ≤ (j : Int) := by omega
    have hj4 : (j : Int) < 4 := by omega
    have HSH := Lib.hid hsh
    have HR := Lib.hid (((hr3.grown (only_setCell' w3 w.heap.size 0 (.string name)) (by intro e; injection e; omega) (by intro k hk; injection hk; omega)).grown (only_setCell' _ w.heap.size 1 (.string feed)) (by intro e; injection e; omega) (by intro k hk; injection hk; omega)).grown (only_setCell' _ w.heap.size 2 (.int .i64 sign)) (by intro e; injection e; omega) (by intro k hk; injection hk; omega))
    have HG := Lib.hid (gs_set (gs_set (gs_set hgw3 (Nat.le_refl w.heap.size) 0 (.string name)) (Nat.le_refl w.heap.size) 1 (.string feed)) (Nat.le_refl w.heap.size) 2 (.int .i64 sign))
    clear k0 hg3 hr3 hgw3 e0 e1 e2 hsh hr2 hz2 hz1 hr1 hgw1 hgw0 hz3
    go_wp2
    refine bodyPost_ret (v := .agg #[.string name, .string feed, .int .i64 sign]) (by simp [results, Try.results55, go_sem, c0, c1, c2]) rfl ⟨⟨name, feed, sign⟩, rfl, HSH.out, HR.out.more (by omega), HG.out⟩
/-- actors that were drawn -/
def DrewAcs (W : World) (g m : Nat) (e : Ending) (w' : World) : Prop := ∃ (v : Value) (L : List Ac), e = .returned v ∧ L.length ≤ 9 ∧ (∀ x ∈ L, ShAc x) ∧ OwnAc w' (g + 1) v L ∧ Rd W w' g m
theorem fitAcs_sh {L : List Ac} (h : ∀ x ∈ L, ShAc x) : FitAcs L := fun x m => fitAc_sh (h x m)
theorem adA_sh {L : List Ac} {a : Ac} (h : ∀ x ∈ L, ShAc x) (ha : ShAc a) : ∀ x ∈ (adA L a).1, ShAc x := by
  intro x m
  unfold adA at m
  split at m
  · split at m
    · rcases insG_mem.1 m with q | rfl
      · exact h x q
      · exact ha
    · exact h x m
  · simp at m
set_option maxRecDepth 100000 in
set_option maxHeartbeats 8000000 in
theorem actors_draw (W w : World) (g m : Nat) (n : Int) (h : Rd W w g m) (hm : m ≤ 500000) (hn1 : -1000000 ≤ n) (hn2 : n ≤ 1000000) :
    Calls Try.prog 49 #[.pointer (some ⟨g, 0, none⟩), .int .i64 n] w (DrewAcs W g (m + 32)) := by
  have hlt := h.lt
  have hown0 := Lib.hid (ownAc_none w (g + 1) (by omega))
  have hr0 := h.alloc (.cells #[] 33)
  go_enter Try.func49, Try.ntmps49
  go_wp2_with fail
  refine (pick_any W _ g m 6 hr0 (by omega)).mono ?_
  rintro e w3 ⟨v3, a3, b3, _, rfl, hr3, hg3⟩
  have b3 := b3 (by omega)
  have hown3 := Lib.hid (OwnG.row hown0.out hg3 (fun k e => by cases e; omega))
  obtain ⟨j, rfl⟩ : ∃ j : Nat, v3 = j := ⟨v3.toNat, by omega⟩
  have hj : j ≤ 5 := by omega
  have hr3' := Lib.hid (hr3.more (m' := m + 1 + 5 * (5 - j)) (by omega))
  clear a3 b3 hg3 hr3 hown0 hr0
  go_wp2
  go_loopw [5, 6] (fun x i wr => ∃ (k : Nat) (L : List Ac) (y : Value), k ≤ 5 ∧ i = .int .i64 k ∧ y = x ∧ L.length ≤ 8 ∧ Hid (∀ x ∈ L, ShAc x) ∧ Hid (OwnAc wr (g + 1) y L) ∧ Hid (Rd W wr g (m + 1 + 5 * (5 - k)))) (fun x i _ => (intOf i).toNat)
  case atStart => exact ⟨j, [], _, hj, rfl, rfl, by simp, Lib.hid (by simp), hown3, hr3'⟩
  case round =>
    obtain ⟨k, L, y, hk, rfl, rfl, hl, hsh, hown, hr⟩ := hrel
    by_cases h0 : k = 0
    · subst h0
      have hr' := hr.out.more (m' := m + 26) (by omega)
      obtain ⟨A2, c2, hy⟩ := OwnAc.shape hown.out
      subst hy
      have hll : L.length ≤ 1073741824 := by omega
      clear hr
      go_wp2_with fail
      refine (odd_any W _ g (m + 26) n hr' (by omega) hn1 hn2).mono ?_
      rintro e w6 ⟨b, rfl, hr6, hg6⟩
      have hown6 := Lib.hid (OwnG.row hown.out hg6 (fun k e => by cases e; omega))
      clear hg6 hr' hown
      rcases b with _ | _
      · go_wp2
        go_ret
        exact ⟨_, L, rfl, by omega, hsh.out, hown6.out, hr6.more (by omega)⟩
      · go_wp2_with fail
        refine (actor_draw W w6 g _ 1 hr6 (by omega) (by omega) (by omega)).mono ?_
        rintro e w7 ⟨z, rfl, hz, hr7, hg7⟩
        obtain ⟨name, feed, sign⟩ := z
        simp only [aggAc]
        have hown7 := Lib.hid (OwnG.row hown6.out hg7 (fun k e => by cases e; omega))
        have hlt7 := hr7.lt
        clear hg7 hown6 hr6
        go_wp2_with (at_builtin; refine appAc rfl (.tmp 27) (.tmp 30) rfl (g + 1) _ L name feed sign rfl hown7.out (by omega) _ rfl rfl hll ?_; intro v8 w8 hown8 hg8; have hr8 := Lib.hid (rd_appG hr7 hown7.out hg8); have hown8 := Lib.hid hown8; clear hg8)
        go_ret
        refine ⟨_, _, rfl, by rw [List.length_append, List.length_singleton]; omega, fun x m => ?_, hown8.out, hr8.out.more (by omega)⟩
        rcases List.mem_append.1 m with m | m
        · exact hsh.out x m
        · have : x = ⟨name, feed, sign⟩ := by simpa using m
          rw [this]; exact hz
    · obtain ⟨q, rfl⟩ : ∃ q, k = q + 1 := ⟨k - 1, by omega⟩
      have hr' := hr.out
      have hfit := fitAcs_sh hsh.out
      clear hr
      go_wp2_with fail
      refine (actor_draw W _ g _ 0 hr' (by omega) (by omega) (by omega)).mono ?_
      rintro e w7 ⟨z, rfl, hz, hr7, hg7⟩
      obtain ⟨name, feed, sign⟩ := z
      simp only [aggAc]
      have hown7 := Lib.hid (OwnG.row hown.out hg7 (fun k e => by cases e; omega))
      have hlt7 := hr7.lt
      clear hg7 hown hr'
      go_wp2_with fail
      refine (acS_add _ L name feed sign _ (OwnG.rd hown7.out) hfit (fitAc_sh hz)).mono ?_
      rintro e w8 ⟨u, rfl, hown8, hb8⟩
      have hr8 := Lib.hid ((rd_below hr7 hb8).more (m' := m + 1 + 5 * (5 - q)) (by omega))
      have hown8 := Lib.hid (OwnG.base hown8 (B' := g + 1) (by omega))
      have hs8 := Lib.hid (adA_sh hsh.out hz)
      have hl8 := adA_8 L ⟨name, feed, sign⟩
      clear hb8 hown7 hr7
      obtain ⟨P, hP⟩ : ∃ P, adA L ⟨name, feed, sign⟩ = P := ⟨_, rfl⟩
      rw [hP] at hown8 hs8 hl8 ⊢
      clear hP
      go_wp2
      go_roundw
      case rel => exact ⟨q, P.1, _, by omega, by go_num, rfl, hl8, hs8, hown8, hr8⟩
      case measure => (simp [intOf] <;> omega)

def DrawnAcs (w : World) (e : Ending) (w' : World) : Prop := ∃ (v : Value) (L : List Ac), e = .returned v ∧ L.length ≤ 9 ∧ (∀ x ∈ L, ShAc x) ∧ OwnAc w' w.heap.size v L ∧ Below w.heap.size w w'
set_option maxRecDepth 100000 in
set_option maxHeartbeats 1000000 in
theorem drawAV_any (w : World) (A : Option Addr) (n c : Nat) (h : CodeArg w A n c) : Calls Try.prog 21 #[.slice A n c] w (DrawnAcs w) := by
  go_enter Try.func21, Try.ntmps21
  go_wp2_with (go_at_call 42; refine (open_any w A n c h).mono ?_; rintro e w2 ⟨rfl, hr2⟩)
  refine (actors_draw w w2 w.heap.size 0 2 hr2 (by omega) (by omega) (by omega)).mono ?_
  rintro e w3 ⟨v, L, rfl, h9, hsh, hown, hr3⟩
  go_wp2
  go_ret
  exact ⟨v, L, rfl, h9, hsh, OwnG.base hown (by omega), hr3.bel⟩
def DrawnAcsS (w : World) (e : Ending) (w' : World) : Prop := ∃ (v : Value) (L : List Ac) (s : ByteArray), e = .returned (.tuple #[v, .string s]) ∧ L.length ≤ 9 ∧ s.size ≤ 9 ∧ (∀ x ∈ L, ShAc x) ∧ OwnAc w' w.heap.size v L ∧ Below w.heap.size w w'
set_option maxRecDepth 100000 in
set_option maxHeartbeats 1000000 in
theorem drawAN_any (w : World) (A : Option Addr) (n c : Nat) (h : CodeArg w A n c) : Calls Try.prog 24 #[.slice A n c] w (DrawnAcsS w) := by
  go_enter Try.func24, Try.ntmps24
  go_wp2_with (go_at_call 42; refine (open_any w A n c h).mono ?_; rintro e w2 ⟨rfl, hr2⟩)
  refine (actors_draw w w2 w.heap.size 0 9 hr2 (by omega) (by omega) (by omega)).mono ?_
  rintro e w3 ⟨v, L, rfl, h9, hsh, hown, hr3⟩
  go_wp2_with fail
  refine (word_draw w _ w.heap.size (0 + 32) 9 hr3 (by omega) (by omega) (by omega)).mono ?_
  rintro e w4 ⟨s, hs, rfl, hr4, hg4⟩
  have hown4 := OwnG.row hown hg4 (fun k e => by cases e; omega)
  go_wp2
  go_ret2
  exact ⟨v, L, s, rfl, h9, hs, hsh, OwnG.base hown4 (by omega), hr4.bel⟩
def DrawnAcsA (w : World) (e : Ending) (w' : World) : Prop := ∃ (v : Value) (L : List Ac) (y : Ac), e = .returned (.tuple #[v, aggAc y]) ∧ L.length ≤ 9 ∧ ShAc y ∧ (∀ x ∈ L, ShAc x) ∧ OwnAc w' w.heap.size v L ∧ Below w.heap.size w w'
theorem zeroAc {w w1 wX : World} (hw : w.alloc (.cells #[.string ⟨#[]⟩, .string ⟨#[]⟩, .int .i64 0] 33) = w1) (hB : Below w1.heap.size w1 wX) :
    wX.cell? ⟨w.heap.size, 0, none⟩ = some (.string ⟨#[]⟩) ∧ wX.cell? ⟨w.heap.size, 1, none⟩ = some (.string ⟨#[]⟩) ∧ wX.cell? ⟨w.heap.size, 2, none⟩ = some (.int .i64 0) ∧ (∀ j, wX.frozen? ⟨w.heap.size, j, none⟩ = false) ∧ Below w.heap.size w wX := by
  obtain ⟨a, b, c⟩ := row3 hw hB
  subst hw
  have hX := (hB.block w.heap.size (by simp)).trans (heap_alloc_new w _)
  exact ⟨a, b, c, fun j => by simp [World.frozen?, hX], ((Below.refl _ _).alloc (Nat.le_refl _) _).trans (hB.mono (by simp))⟩
set_option maxRecDepth 100000 in
set_option maxHeartbeats 4000000 in
theorem drawAA_any (w : World) (A : Option Addr) (n c : Nat) (h : CodeArg w A n c) : Calls Try.prog 27 #[.slice A n c] w (DrawnAcsA w) := by
  obtain ⟨w1, hw1⟩ : ∃ w1, w.alloc (.cells #[.string ⟨#[]⟩, .string ⟨#[]⟩, .int .i64 0] 33) = w1 := ⟨_, rfl⟩
  have hb1 : Below w.heap.size w w1 := by rw [← hw1]; exact (Below.refl _ _).alloc (Nat.le_refl _) _
  have h1 := codeArg_below h hb1
  have hs1 := Lib.hid (show w.heap.size < w1.heap.size by rw [← hw1]; simp)
  have hfin := Lib.hid (fun wX (hX : Below w1.heap.size w1 wX) => zeroAc hw1 hX)
  go_enter Try.func27, Try.ntmps27
  go_wp2_with (go_at_call 42; refine (open_any w1 A n c h1).mono ?_; rintro e w2 ⟨rfl, hr2⟩)
  have hw1 := Lib.hid hw1
  refine (actors_draw w1 w2 w1.heap.size 0 9 hr2 (by omega) (by omega) (by omega)).mono ?_
  rintro e w3 ⟨v, L, rfl, h9, hsh, hown, hr3⟩
  go_wp2_with fail
  refine (actor_draw w1 _ w1.heap.size (0 + 32) 9 hr3 (by omega) (by omega) (by omega)).mono ?_
  rintro e w4 ⟨y, rfl, hy, hr4, hg4⟩
  obtain ⟨name, feed, sign⟩ := y
  simp only [aggAc]
  have hown4 := Lib.hid (OwnG.row hown hg4 (fun k e => by cases e; omega))
  obtain ⟨c0, c1, c2, cf, hbw⟩ := hfin.out w4 hr4.bel
  have HW := Lib.hid hbw
  have hown5 : Hid (OwnAc (((w4.setCell ⟨w.heap.size, 0, none⟩ (.string name)).setCell ⟨w.heap.size, 1, none⟩ (.string feed)).setCell ⟨w.heap.size, 2, none⟩ (.int .i64 sign)) w.heap.size v L) := Lib.hid (by
    have hs := hs1.out
    exact OwnG.base (OwnG.row (OwnG.row (OwnG.row hown4.out (only_setCell' w4 w.heap.size 0 _) (fun k e => by cases e; omega)) (only_setCell' _ w.heap.size 1 _) (fun k e => by cases e; omega)) (only_setCell' _ w.heap.size 2 _) (fun k e => by cases e; omega)) (by omega))
  clear hbw hg4 hr4 hr3 hown hr2
  go_wp2
  refine bodyPost_ret (v := .tuple #[v, .agg #[.string name, .string feed, .int .i64 sign]]) (by simp [results, Try.results27, go_sem, c0, c1, c2]) rfl ⟨v, L, ⟨name, feed, sign⟩, rfl, h9, hy, hsh, hown5.out, ?_⟩
  exact ((HW.out.setCell (Nat.le_refl _) _).setCell (Nat.le_refl _) _).setCell (Nat.le_refl _) _
def tk3 : List Ac := [⟨⟨#[97, 98, 99, 100, 101, 102, 103, 50]⟩, ⟨#[102, 49]⟩, 0⟩, ⟨⟨#[97, 98, 99, 100, 101, 102, 103, 51]⟩, ⟨#[102, 50]⟩, 0⟩, ⟨⟨#[97, 98, 99, 100, 101, 102, 103, 104]⟩, ⟨#[102, 51]⟩, 0⟩]
theorem tk3_sh : ∀ x ∈ tk3, ShAc x := by
  intro x m
  simp only [tk3, List.mem_cons, List.not_mem_nil, or_false] at m
  rcases m with rfl | rfl | rfl
  all_goals exact ⟨by unfold ShS; decide, by unfold ShS; decide, by unfold ShI; decide⟩
theorem of_tk (v : Int) (h0 : 0 ≤ v) (h1 : v < 3) : ∃ s : ByteArray, s.size ≤ 9 ∧ (#[Value.string ⟨#[97, 98, 99, 100, 101, 102, 103, 104]⟩, Value.string ⟨#[97, 98, 99, 100, 101, 102, 103, 120]⟩, Value.string ⟨#[97, 98, 99, 100, 101, 102, 103, 50]⟩] : Array Value)[v.toNat]? = some (.string s) ∧
    (∀ h : v.toNat < [Value.string ⟨#[97, 98, 99, 100, 101, 102, 103, 104]⟩, Value.string ⟨#[97, 98, 99, 100, 101, 102, 103, 120]⟩, Value.string ⟨#[97, 98, 99, 100, 101, 102, 103, 50]⟩].length, [Value.string ⟨#[97, 98, 99, 100, 101, 102, 103, 104]⟩, Value.string ⟨#[97, 98, 99, 100, 101, 102, 103, 120]⟩, Value.string ⟨#[97, 98, 99, 100, 101, 102, 103, 50]⟩][v.toNat] = .string s) := by
  obtain rfl | rfl | rfl : v = 0 ∨ v = 1 ∨ v = 2 := by omega
  all_goals exact ⟨_, by decide, rfl, fun _ => rfl⟩
set_option maxRecDepth 100000 in
set_option maxHeartbeats 4000000 in
theorem drawNF_any (w : World) (A : Option Addr) (n c : Nat) (h : CodeArg w A n c) : Calls Try.prog 31 #[.slice A n c] w (DrawnAcsS w) := by
  go_enter Try.func31, Try.ntmps31
  go_wp2_with (go_at_call 42; refine (open_any w A n c h).mono ?_; rintro e w2 ⟨rfl, hr2⟩)
  refine (actors_draw w w2 w.heap.size 0 9 hr2 (by omega) (by omega) (by omega)).mono ?_
  rintro e w3 ⟨v, L, rfl, h9, hsh, hown, hr3⟩
  go_wp2_with fail
  refine (pick_any w _ w.heap.size (0 + 32) 3 hr3 (by omega)).mono ?_
  rintro e w4 ⟨v4, a4, b4, _, rfl, hr4, hg4⟩
  have hown4 := Lib.hid (OwnG.row hown hg4 (fun k e => by cases e; omega))
  have hlt4 := hr4.lt
  clear hown hg4 hr3
  by_cases h0 : v4 = 0
  · subst h0
    have t0 : ((0 : Int) == 0) = true := rfl
    have hown5 := Lib.hid (ownAc_lits w4 w4.heap.size tk3 #[.string ⟨#[97, 98, 99, 100, 101, 102, 103, 50]⟩, .string ⟨#[102, 49]⟩, .int .i64 0, .string ⟨#[97, 98, 99, 100, 101, 102, 103, 51]⟩, .string ⟨#[102, 50]⟩, .int .i64 0, .string ⟨#[97, 98, 99, 100, 101, 102, 103, 104]⟩, .string ⟨#[102, 51]⟩, .int .i64 0] rfl (Nat.le_refl _) (by decide))
    obtain ⟨w5, hw5⟩ : ∃ w5, w4.alloc (.cells #[.string ⟨#[97, 98, 99, 100, 101, 102, 103, 50]⟩, .string ⟨#[102, 49]⟩, .int .i64 0, .string ⟨#[97, 98, 99, 100, 101, 102, 103, 51]⟩, .string ⟨#[102, 50]⟩, .int .i64 0, .string ⟨#[97, 98, 99, 100, 101, 102, 103, 104]⟩, .string ⟨#[102, 51]⟩, .int .i64 0] 33) = w5 := ⟨_, rfl⟩
    have hr5 : Rd w w5 w.heap.size (0 + 33) := by rw [← hw5]; exact hr4.alloc _
    have hlt5 := hr5.lt
    have hs5 : w4.heap.size < w5.heap.size := by rw [← hw5]; simp
    rw [hw5] at hown5
    go_wp2
    have hw5 := Lib.hid hw5
    go_region_with (go_at_call 43; ((with_reducible refine (pick_any w _ w.heap.size (0 + 33) 3 (by first | exact hr5.drew | exact (hr5.alloc _).drew | exact hr5.drew.alloc _) (by omega)).mono ?_); rintro e w6 ⟨v6, a6, b6, _, rfl, hr6, hg6⟩; have b6 := b6 (by omega); obtain ⟨s6, hs6, hel, hel'⟩ := of_tk v6 a6 b6; have hown6 : Hid (OwnAc w6 w4.heap.size (.slice (some ⟨w4.heap.size, 0, none⟩) 3 3) tk3) := Lib.hid (by first | exact OwnG.row (w := w5.drew) hown5.out hg6 (fun k e => by cases e; omega) | exact OwnG.row (OwnG.grown hown5.out (Below.drew ((Below.refl _ _).alloc (Nat.le_refl _) _))) hg6 (fun k e => by cases e; omega)); (first | (have k1 := kept_one hg6 hlt5 v6.toNat; rw [hel] at k1) | skip); clear hg6))
    all_goals
      go_wp2
      go_ret2
      first
        | exact ⟨_, tk3, s6, rfl, by decide, hs6, tk3_sh, OwnG.base hown6.out (by omega), hr6.bel⟩
        | exact ⟨_, tk3, s6, rfl, by decide, hs6, tk3_sh, OwnG.base (OwnG.grown hown6.out ((Below.refl _ _).alloc (Nat.le_refl _) _)) (by omega), hr6.bel.alloc hr6.bel.size _⟩
  · have t0 : (v4 == 0) = false := by rw [beq_eq_false_iff_ne]; exact h0
    go_wp2_with fail
    refine (word_draw w _ w.heap.size (0 + 33) 9 hr4 (by omega) (by omega) (by omega)).mono ?_
    rintro e w5 ⟨s, hs, rfl, hr5, hg5⟩
    have hown5 := OwnG.row hown4.out hg5 (fun k e => by cases e; omega)
    go_wp2
    go_ret2
    exact ⟨v, L, s, rfl, h9, hs, hsh, OwnG.base hown5 (by omega), hr5.bel⟩
end Go.Proofs.Ytacapigdfabiiaa
