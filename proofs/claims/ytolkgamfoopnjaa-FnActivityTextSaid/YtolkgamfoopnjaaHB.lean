/-
  The verifier's own text: DHand DHand2 DHand3.
-/
import Derived.Test.YtolkgamfoopnjaaRows
import Derived.Test.YtolkgamfoopnjaaGs
import Derived.Test.YtolkgamfoopnjaaHA
import Derived.WalkKit
import Derived.ProofKit
import Derived.Below
import Derived.Lib.Hide
import Derived.Outline
import Derived.BigQuiet
import Derived.Deep.QuietTactic
import Derived.Deep.Draws
import Derived.Laws.OwnMore
import Derived.Laws.Rows
import Derived.WalkSpells
import Derived.Deep.RegionWith
namespace Go.Proofs.Ytolkgamfoopnjaa
open Go.RowKit
set_option linter.unusedVariables false
/-- what the operations of the region yield -/
def QH (B g : Nat) (n : Int) (j : Nat) (v : Value) (w : World) : Prop :=
  match j with
  | 0 => v = .pointer (some ⟨g, 0, none⟩)
  | 1 => v = .int .i64 n
  | 2 => StrIs 9 v
  | 3 => ∃ cs : Array Value, cs.size = 4 ∧ ShortRow 9 cs ∧ LitAt B g 4 cs v w
  | 4 => v = .pointer (some ⟨g, 0, none⟩)
  | 5 => IntUp 4 v
  | 6 => StrAt g 9 v w
  | 7 => StrIs 9 v
  | 8 => v = .pointer (some ⟨g, 0, none⟩)
  | 9 => v = .int .i64 n
  | 10 => StrIs 9 v
  | 11 => ∃ cs : Array Value, cs.size = 3 ∧ ShortRow 9 cs ∧ LitAt B g 3 cs v w
  | 12 => v = .pointer (some ⟨g, 0, none⟩)
  | 13 => IntUp 3 v
  | 14 => StrAt g 9 v w
  | 15 => StrIs 9 v
  | 16 => ∃ s0 s1 : ByteArray, v = .agg #[.string s0, .string s1] ∧ s0.size ≤ 9 ∧ s1.size ≤ 9
  | _ => False
theorem QH_mono {B g : Nat} {n : Int} (j : Nat) (v : Value) (w w' : World) (_ : j < 17) (h : QH B g n j v w) (hg : w.grownBy w' (some g)) : QH B g n j v w' := by
  match j, h with
  | 0, h => exact h
  | 1, h => exact h
  | 2, h => exact h
  | 3, h => obtain ⟨cs, h1, h2, h3⟩ := h; exact ⟨cs, h1, h2, LitAt.mono h3 hg⟩
  | 4, h => exact h
  | 5, h => exact h
  | 6, h => exact StrAt.mono h hg
  | 7, h => exact h
  | 8, h => exact h
  | 9, h => exact h
  | 10, h => exact h
  | 11, h => obtain ⟨cs, h1, h2, h3⟩ := h; exact ⟨cs, h1, h2, LitAt.mono h3 hg⟩
  | 12, h => exact h
  | 13, h => exact h
  | 14, h => exact StrAt.mono h hg
  | 15, h => exact h
  | 16, h => exact h
/-- a struct of texts that was drawn, and the reader -/
def DrewH (W w : World) (g m : Nat) (e : Ending) (w' : World) : Prop := ∃ s0 s1 : ByteArray, e = .returned (.agg #[.string s0, .string s1]) ∧ s0.size ≤ 9 ∧ s1.size ≤ 9 ∧ Rd W w' g m ∧ w.grownBy w' (some g)
def FinH (W w0 : World) (g m : Nat) (Fr : (Nat → Value) → Act) (a : Act) (w' : World) : Prop := ∃ (x : Nat → Value) (s0 s1 : ByteArray), a = Fr x ∧ w'.heap[w0.heap.size]? = some (.cells #[.string s0, .string s1] 24 (0, 0)) ∧ s0.size ≤ 9 ∧ s1.size ≤ 9 ∧ Rd W w' g (m + 6) ∧ w0.grownBy w' (some g)
set_option maxRecDepth 100000 in
set_option maxHeartbeats 8000000 in
theorem hand_draw (W w : World) (g m : Nat) (n : Int) (h : Rd W w g m) (hm : m ≤ 700000) (hn1 : -1000000 ≤ n) (hn2 : n ≤ 1000000) :
    Calls Try.prog 31 #[.pointer (some ⟨g, 0, none⟩), .int .i64 n] w (DrewH W w g (m + 6)) := by
  have hlt := h.lt
  have hlo := h.lo
  have hWw : W.heap.size ≤ w.heap.size := h.bel.size
  go_enter Try.func31, Try.ntmps31
  go_wp2
  obtain ⟨w1, hw1⟩ : ∃ w1, w.alloc (.cells #[.string ⟨#[]⟩, .string ⟨#[]⟩] 24) = w1 := ⟨_, rfl⟩
  have hr1 : Rd W w1 g m := by rw [← hw1]; exact h.alloc _
  have hz1 : w1.heap[w.heap.size]? = some (.cells #[.string ⟨#[]⟩, .string ⟨#[]⟩] 24 (0, 0)) := by rw [← hw1]; exact heap_alloc_new w _
  have hgw1 : w.grownBy w1 (some g) := by rw [← hw1]; exact grown_alloc w _ _
  have hs1 : w1.heap.size = w.heap.size + 1 := by rw [← hw1]; simp
  rw [hw1]
  clear hw1
  obtain ⟨Fr, hFr⟩ : ∃ Fr : (Nat → Value) → Act, Fr = (fun x => { tmps := #[.pointer (some ⟨g, 0, none⟩), .int .i64 n, undef, undef, .pointer (some ⟨w.heap.size, 0, none⟩), x 0, x 1, x 2, x 3, x 4, x 5, x 6, x 7, x 8, x 9, x 10, x 11, x 12, x 13, x 14, x 15, x 16], defers := [] }) := ⟨_, rfl⟩
  refine draw_region (n := 17) (by kernel_rfl) rfl W g m [(2, 2), (5, 1), (10, 2), (13, 1)] Fr
    (QH w1.heap.size g n) (FinH W w g m Fr) (by kernel_rfl) (by kernel_rfl) (fun _ => undef) (by rw [hFr]) hr1 QH_mono ?_ ?_ ?_
  · intro i o f x w2 hi ho hf hp hG hQ K hK
    subst hFr
    have hB : w1.heap.size ≤ w2.heap.size := hG.gr.size
    have hcost := cost_all [(2, 2), (5, 1), (10, 2), (13, 1)] f
    have hca : costAll [(2, 2), (5, 1), (10, 2), (13, 1)] = 6 := rfl
    obtain rfl | rfl | rfl | rfl | rfl | rfl | rfl | rfl | rfl | rfl | rfl | rfl | rfl | rfl | rfl | rfl | rfl : i = 0 ∨ i = 1 ∨ i = 2 ∨ i = 3 ∨ i = 4 ∨ i = 5 ∨ i = 6 ∨ i = 7 ∨ i = 8 ∨ i = 9 ∨ i = 10 ∨ i = 11 ∨ i = 12 ∨ i = 13 ∨ i = 14 ∨ i = 15 ∨ i = 16 := by omega
    · simp at ho
      subst ho
      rw [if_pos (by rfl)]
      go_simp
      exact hK _ _ rfl (grown_refl _ _) (hG.step 0)
    · simp at ho
      subst ho
      rw [if_pos (by rfl)]
      go_simp
      exact hK _ _ rfl (grown_refl _ _) (hG.step 1)
    · simp at ho
      subst ho
      have p0 : f 0 = true := hp { on := 0, ground := .data } (by simp) rfl
      have q0 := hQ 0 (by omega) p0
      have q0 : x 0 = .pointer (some ⟨g, 0, none⟩) := q0
      have p1 : f 1 = true := hp { on := 1, ground := .data } (by simp) rfl
      have q1 := hQ 1 (by omega) p1
      have q1 : x 1 = .int .i64 n := q1
      rw [if_pos (by rfl)]
      go_simp
      refine (word_draw W _ g (m + costF [(2, 2), (5, 1), (10, 2), (13, 1)] f) n hG.rd' (by omega) (by omega) (by omega)).mono ?_
      rintro e w' ⟨s, hs, rfl, hr', hg'⟩
      have key := hK _ _ ⟨s, rfl, hs⟩ hg' (hG.call (i := 2) (c := 2) (by simp) hf hr' hg')
      simp [setX, q0, q1] at key
      exact key
    · simp at ho
      subst ho
      have p2 : f 2 = true := hp { on := 2, ground := .data } (by simp) rfl
      have q2 := hQ 2 (by omega) p2
      obtain ⟨s2, h2, l2⟩ := q2
      rw [if_pos (by rfl)]
      go_simp
      have hsr : ShortRow 9 #[.string ⟨#[97, 110, 110]⟩, .string ⟨#[98, 111, 98]⟩, .string ⟨#[101, 118, 101]⟩, .string s2] := by
        intro j h
        have h' : j < 4 := h
        obtain rfl | rfl | rfl | rfl : j = 0 ∨ j = 1 ∨ j = 2 ∨ j = 3 := by omega
        all_goals first | exact ⟨_, rfl, by decide⟩ | exact ⟨_, rfl, by omega⟩
      have key := hK (.slice (some ⟨w2.heap.size, 0, none⟩) 4 4) (w2.alloc (.cells #[.string ⟨#[97, 110, 110]⟩, .string ⟨#[98, 111, 98]⟩, .string ⟨#[101, 118, 101]⟩, .string s2] 9)) ⟨#[.string ⟨#[97, 110, 110]⟩, .string ⟨#[98, 111, 98]⟩, .string ⟨#[101, 118, 101]⟩, .string s2], rfl, hsr, LitAt.new hB hG.lt⟩ (grown_alloc _ _ _) (hG.alloc _ 3)
      simp [setX, h2] at key
      exact key
    · simp at ho
      subst ho
      rw [if_pos (by rfl)]
      go_simp
      exact hK _ _ rfl (grown_refl _ _) (hG.step 4)
    · simp at ho
      subst ho
      have p4 : f 4 = true := hp { on := 4, ground := .data } (by simp) rfl
      have q4 := hQ 4 (by omega) p4
      have q4 : x 4 = .pointer (some ⟨g, 0, none⟩) := q4
      rw [if_pos (by rfl)]
      go_simp
      refine (pick_any W _ g (m + costF [(2, 2), (5, 1), (10, 2), (13, 1)] f) 4 hG.rd' (by omega)).mono ?_
      rintro e w' ⟨v, v0, v1, _, rfl, hr', hg'⟩
      have key := hK _ _ ⟨v, rfl, v0, v1 (by omega)⟩ hg' (hG.call (i := 5) (c := 1) (by simp) hf hr' hg')
      simp [setX, q4] at key
      exact key
    · simp at ho
      subst ho
      have p3 : f 3 = true := hp { on := 3, ground := .data } (by simp) rfl
      have q3 := hQ 3 (by omega) p3
      have p5 : f 5 = true := hp { on := 5, ground := .data } (by simp) rfl
      have q5 := hQ 5 (by omega) p5
      obtain ⟨cs, hcs, hsr, hla⟩ := q3
      obtain ⟨z, hz, z0, z1⟩ := q5
      obtain ⟨b, hb, hs⟩ := LitAt.at hla hsr hcs z0 z1
      rw [if_pos (by rfl)]
      go_simp
      have key := hK _ _ hs (grown_refl _ _) (hG.step 6)
      simp [setX, hz, hb] at key
      exact key
    · simp at ho
      subst ho
      have p6 : f 6 = true := hp { on := 6, ground := .data } (by simp) rfl
      have q6 := hQ 6 (by omega) p6
      obtain ⟨b, j, s, hx, _, _, hc, hs⟩ := q6
      rw [if_pos (by rfl)]
      go_simp
      have key := hK _ _ ⟨s, rfl, hs⟩ (grown_refl _ _) (hG.step 7)
      simp [setX, hx] at key
      exact key
    · simp at ho
      subst ho
      rw [if_pos (by rfl)]
      go_simp
      exact hK _ _ rfl (grown_refl _ _) (hG.step 8)
    · simp at ho
      subst ho
      rw [if_pos (by rfl)]
      go_simp
      exact hK _ _ rfl (grown_refl _ _) (hG.step 9)
    · simp at ho
      subst ho
      have p8 : f 8 = true := hp { on := 8, ground := .data } (by simp) rfl
      have q8 := hQ 8 (by omega) p8
      have q8 : x 8 = .pointer (some ⟨g, 0, none⟩) := q8
      have p9 : f 9 = true := hp { on := 9, ground := .data } (by simp) rfl
      have q9 := hQ 9 (by omega) p9
      have q9 : x 9 = .int .i64 n := q9
      rw [if_pos (by rfl)]
      go_simp
      refine (word_draw W _ g (m + costF [(2, 2), (5, 1), (10, 2), (13, 1)] f) n hG.rd' (by omega) (by omega) (by omega)).mono ?_
      rintro e w' ⟨s, hs, rfl, hr', hg'⟩
      have key := hK _ _ ⟨s, rfl, hs⟩ hg' (hG.call (i := 10) (c := 2) (by simp) hf hr' hg')
      simp [setX, q8, q9] at key
      exact key
    · simp at ho
      subst ho
      have p10 : f 10 = true := hp { on := 10, ground := .data } (by simp) rfl
      have q10 := hQ 10 (by omega) p10
      obtain ⟨s10, h10, l10⟩ := q10
      rw [if_pos (by rfl)]
      go_simp
      have hsr : ShortRow 9 #[.string ⟨#[114, 101, 100]⟩, .string ⟨#[115, 101, 97]⟩, .string s10] := by
        intro j h
        have h' : j < 3 := h
        obtain rfl | rfl | rfl : j = 0 ∨ j = 1 ∨ j = 2 := by omega
        all_goals first | exact ⟨_, rfl, by decide⟩ | exact ⟨_, rfl, by omega⟩
      have key := hK (.slice (some ⟨w2.heap.size, 0, none⟩) 3 3) (w2.alloc (.cells #[.string ⟨#[114, 101, 100]⟩, .string ⟨#[115, 101, 97]⟩, .string s10] 9)) ⟨#[.string ⟨#[114, 101, 100]⟩, .string ⟨#[115, 101, 97]⟩, .string s10], rfl, hsr, LitAt.new hB hG.lt⟩ (grown_alloc _ _ _) (hG.alloc _ 11)
      simp [setX, h10] at key
      exact key
    · simp at ho
      subst ho
      rw [if_pos (by rfl)]
      go_simp
      exact hK _ _ rfl (grown_refl _ _) (hG.step 12)
    · simp at ho
      subst ho
      have p12 : f 12 = true := hp { on := 12, ground := .data } (by simp) rfl
      have q12 := hQ 12 (by omega) p12
      have q12 : x 12 = .pointer (some ⟨g, 0, none⟩) := q12
      rw [if_pos (by rfl)]
      go_simp
      refine (pick_any W _ g (m + costF [(2, 2), (5, 1), (10, 2), (13, 1)] f) 3 hG.rd' (by omega)).mono ?_
      rintro e w' ⟨v, v0, v1, _, rfl, hr', hg'⟩
      have key := hK _ _ ⟨v, rfl, v0, v1 (by omega)⟩ hg' (hG.call (i := 13) (c := 1) (by simp) hf hr' hg')
      simp [setX, q12] at key
      exact key
    · simp at ho
      subst ho
      have p11 : f 11 = true := hp { on := 11, ground := .data } (by simp) rfl
      have q11 := hQ 11 (by omega) p11
      have p13 : f 13 = true := hp { on := 13, ground := .data } (by simp) rfl
      have q13 := hQ 13 (by omega) p13
      obtain ⟨cs, hcs, hsr, hla⟩ := q11
      obtain ⟨z, hz, z0, z1⟩ := q13
      obtain ⟨b, hb, hs⟩ := LitAt.at hla hsr hcs z0 z1
      rw [if_pos (by rfl)]
      go_simp
      have key := hK _ _ hs (grown_refl _ _) (hG.step 14)
      simp [setX, hz, hb] at key
      exact key
    · simp at ho
      subst ho
      have p14 : f 14 = true := hp { on := 14, ground := .data } (by simp) rfl
      have q14 := hQ 14 (by omega) p14
      obtain ⟨b, j, s, hx, _, _, hc, hs⟩ := q14
      rw [if_pos (by rfl)]
      go_simp
      have key := hK _ _ ⟨s, rfl, hs⟩ (grown_refl _ _) (hG.step 15)
      simp [setX, hx] at key
      exact key
    · simp at ho
      subst ho
      have p7 : f 7 = true := hp { on := 7, ground := .data } (by simp) rfl
      have q7 := hQ 7 (by omega) p7
      obtain ⟨s7, h7, l7⟩ := q7
      have p15 : f 15 = true := hp { on := 15, ground := .data } (by simp) rfl
      have q15 := hQ 15 (by omega) p15
      obtain ⟨s15, h15, l15⟩ := q15
      rw [if_pos (by rfl)]
      go_simp
      have key := hK _ _ ⟨s7, s15, rfl, l7, l15⟩ (grown_refl _ _) (hG.step 16)
      simp [setX, h7, h15] at key
      exact key
  · intro o f x w2 ho hp hG hQ K hK
    subst hFr
    have hcost := cost_all [(2, 2), (5, 1), (10, 2), (13, 1)] f
    have hca : costAll [(2, 2), (5, 1), (10, 2), (13, 1)] = 6 := rfl
    simp at ho
    subst ho
    have p16 : f 16 = true := hp { on := 16, ground := .data } (by simp) rfl
    obtain ⟨s0, s1, hb, l0, l1⟩ := hQ 16 (by omega) p16
    have hrow : w2.heap[w.heap.size]? = some (.cells #[.string ⟨#[]⟩, .string ⟨#[]⟩] 24 (0, 0)) := by
      rw [hG.gr.block w.heap.size (by show _ < w1.heap.size; omega) (by intro e; injection e; omega)]; exact hz1
    have c0 := cell_of_row w2 w.heap.size 0 _ _ (0, 0) hrow
    have c1 := cell_of_row w2 w.heap.size 1 _ _ (0, 0) hrow
    have f0 : ∀ j, w2.frozen? ⟨w.heap.size, j, none⟩ = false := fun j => by simp [World.frozen?, hrow]
    have g0 := heap_setCell_same w2 w.heap.size 0 _ _ (.string s0) hrow
    have g1 := heap_setCell_same _ w.heap.size 1 _ _ (.string s1) g0
    have GR := Lib.hid g1
    have HD : DrawG W w g m [(2, 2), (5, 1), (10, 2), (13, 1)] f w2 := ⟨hG.rd, grown_trans hgw1 ⟨hG.gr.os, hG.gr.tape, hG.gr.output, hG.gr.size, hG.gr.block⟩⟩
    have HG := Lib.hid ((HD.store (b := w.heap.size) (Nat.le_refl _) (by omega) hWw 0 (.string s0)).store (b := w.heap.size) (Nat.le_refl _) (by omega) hWw 1 (.string s1))
    clear g0 g1 HD
    rw [if_pos (by rfl)]
    go_simp
    refine hK _ _ ⟨x, s0, s1, ?_, ?_, l0, l1, HG.out.rd'.more (by omega), HG.out.gr⟩
    · simp [hb]
    · exact GR.out
  · rintro a w3 ⟨x, s0, s1, rfl, hrow, l0, l1, hr3, hg3⟩
    subst hFr
    have r0 := cell_of_row w3 w.heap.size 0 _ _ (0, 0) hrow
    have r1 := cell_of_row w3 w.heap.size 1 _ _ (0, 0) hrow
    go_wp2
    refine bodyPost_ret (v := .agg #[.string s0, .string s1]) (by simp [results, Try.results31, go_sem, r0, r1]) rfl ⟨s0, s1, rfl, l0, l1, hr3, hg3⟩
def DrawnH (w : World) (e : Ending) (w' : World) : Prop := ∃ s0 s1 : ByteArray, e = .returned (.agg #[.string s0, .string s1]) ∧ s0.size ≤ 9 ∧ s1.size ≤ 9 ∧ Below w.heap.size w w'
theorem fitHn_short {a b : ByteArray} (h0 : a.size ≤ 9) (h1 : b.size ≤ 9) : FitHn ⟨a, b⟩ := ⟨by show a.size ≤ _; omega, by show b.size ≤ _; omega⟩
def DrawnH2 (w : World) (e : Ending) (w' : World) : Prop := ∃ s0 s1 s2 s3 : ByteArray, e = .returned (.tuple #[.agg #[.string s0, .string s1], .agg #[.string s2, .string s3]]) ∧ Below w.heap.size w w'
theorem hnB_swap (a b : ByteArray) : hnB ⟨b, a⟩ = hnB ⟨a, b⟩ := by unfold hnB; exact Bool.and_comm _ _
end Go.Proofs.Ytolkgamfoopnjaa
