/-
  The verifier's own text: DItem DItem2.
-/
import Derived.Test.YtbljpbmpfmnemaaRows
import Derived.Test.YtbljpbmpfmnemaaGn
import Derived.Test.YtbljpbmpfmnemaaGo
import Derived.Test.YtbljpbmpfmnemaaGh
import Derived.WalkKit
import Derived.ProofKit
import Derived.Below
import Derived.Lib.Hide
import Derived.Outline
import Derived.BigQuiet
import Derived.Deep.QuietTactic
import Derived.Deep.Draws
import Derived.Laws.OwnMore
import Derived.Laws.Rows
import Derived.WalkSpells
import Derived.Deep.RegionWith
namespace Go.Proofs.Ytbljpbmpfmnemaa
open Go.RowKit
set_option linter.unusedVariables false
/-- a row of literals, in a block of its own -/
def LitAt (B g n : Nat) (cs : Array Value) (v : Value) (w : World) : Prop := ∃ b, v = .slice (some ⟨b, 0, none⟩) n n ∧ B ≤ b ∧ b ≠ g ∧ b < w.heap.size ∧ ∀ j : Nat, w.cell? ⟨b, j, none⟩ = cs[j]?
def StrAt (g n : Nat) (v : Value) (w : World) : Prop := ∃ (b j : Nat) (s : ByteArray), v = .pointer (some ⟨b, j, none⟩) ∧ b ≠ g ∧ b < w.heap.size ∧ w.cell? ⟨b, j, none⟩ = some (.string s) ∧ s.size ≤ n
def StrIs (n : Nat) (v : Value) : Prop := ∃ s : ByteArray, v = .string s ∧ s.size ≤ n
def IntUp (k : Int) (v : Value) : Prop := ∃ z : Int, v = .int .i64 z ∧ 0 ≤ z ∧ z < k
/-- a variable of its own -/
def VarAt (B g n : Nat) (t : TypeId) (v : Value) (w : World) : Prop := ∃ (b : Nat) (cs : Array Value), v = .pointer (some ⟨b, 0, none⟩) ∧ B ≤ b ∧ b ≠ g ∧ cs.size = n ∧ w.heap[b]? = some (.cells cs t (0, 0))
theorem row_kept {w w' : World} {g b j : Nat} (h : w.grownBy w' (some g)) (hb : b ≠ g) (hlt : b < w.heap.size) : w'.cell? ⟨b, j, none⟩ = w.cell? ⟨b, j, none⟩ := kept_cell h b j hb hlt
theorem LitAt.mono {B g n : Nat} {cs : Array Value} {v : Value} {w w' : World} (h : LitAt B g n cs v w) (hg : w.grownBy w' (some g)) : LitAt B g n cs v w' := by
  obtain ⟨b, rfl, h1, h2, h3, h4⟩ := h
  exact ⟨b, rfl, h1, h2, Nat.lt_of_lt_of_le h3 hg.size, fun j => by rw [row_kept hg h2 h3]; exact h4 j⟩
theorem StrAt.mono {g n : Nat} {v : Value} {w w' : World} (h : StrAt g n v w) (hg : w.grownBy w' (some g)) : StrAt g n v w' := by
  obtain ⟨b, j, s, rfl, h2, h3, h4, h5⟩ := h
  exact ⟨b, j, s, rfl, h2, Nat.lt_of_lt_of_le h3 hg.size, by rw [row_kept hg h2 h3]; exact h4, h5⟩
theorem VarAt.mono {B g n : Nat} {t : TypeId} {v : Value} {w w' : World} (h : VarAt B g n t v w) (hg : w.grownBy w' (some g)) : VarAt B g n t v w' := by
  obtain ⟨b, cs, rfl, h1, h2, h3, h4⟩ := h
  exact ⟨b, cs, rfl, h1, h2, h3, by rw [hg.block b (Array.getElem?_eq_some_iff.1 h4).1 (by intro e; injection e; omega)]; exact h4⟩
theorem LitAt.new {B g n : Nat} {cs : Array Value} {t : TypeId} {w : World} (hB : B ≤ w.heap.size) (hg : g < w.heap.size) : LitAt B g n cs (.slice (some ⟨w.heap.size, 0, none⟩) n n) (w.alloc (.cells cs t)) :=
  ⟨_, rfl, hB, by omega, by simp, fun j => World.cell?_alloc_new w cs t j⟩
theorem VarAt.new {B g n : Nat} {cs : Array Value} {t : TypeId} {w : World} (hB : B ≤ w.heap.size) (hg : g < w.heap.size) (hn : cs.size = n) : VarAt B g n t (.pointer (some ⟨w.heap.size, 0, none⟩)) (w.alloc (.cells cs t)) :=
  ⟨_, cs, rfl, hB, by omega, hn, heap_alloc_new w _⟩
/-- the strings of a literal row are short -/
def ShortRow (n : Nat) (cs : Array Value) : Prop := ∀ j (h : j < cs.size), ∃ s : ByteArray, cs[j] = .string s ∧ s.size ≤ n
/-- an element of a literal row -/
theorem LitAt.at {B g n k : Nat} {cs : Array Value} {v : Value} {w : World} (h : LitAt B g n cs v w) (hs : ShortRow k cs) (hn : cs.size = n) {z : Int} (h0 : 0 ≤ z) (h1 : z < n) : ∃ b, v = .slice (some ⟨b, 0, none⟩) n n ∧ StrAt g k (.pointer (some ⟨b, z.toNat, none⟩)) w := by
  obtain ⟨b, rfl, _, h2, h3, h4⟩ := h
  obtain ⟨s, e, hl⟩ := hs z.toNat (by omega)
  exact ⟨b, rfl, b, z.toNat, s, rfl, h2, h3, by rw [h4, Array.getElem?_eq_getElem (by omega), e], hl⟩
def lit5 : Array Value := #[.string ⟨#[107, 49]⟩, .string ⟨#[107, 50]⟩, .string ⟨#[107, 51]⟩, .string ⟨#[107, 52]⟩, .string ⟨#[107, 53]⟩]
def lit3 : Array Value := #[.string ⟨#[78, 101, 119, 115]⟩, .string ⟨#[65, 32, 38, 32, 66]⟩, .string ⟨#[116]⟩]
theorem lit5_short : ShortRow 5 lit5 := by
  intro j h
  have h' : j < 5 := h
  obtain rfl | rfl | rfl | rfl | rfl : j = 0 ∨ j = 1 ∨ j = 2 ∨ j = 3 ∨ j = 4 := by omega
  all_goals exact ⟨_, rfl, by decide⟩
theorem lit3_short : ShortRow 5 lit3 := by
  intro j h
  have h' : j < 3 := h
  obtain rfl | rfl | rfl : j = 0 ∨ j = 1 ∨ j = 2 := by omega
  all_goals exact ⟨_, rfl, by decide⟩
/-- what the operations of the item's region yield -/
def QI (B g : Nat) (j : Nat) (v : Value) (w : World) : Prop :=
  match j with
  | 0 => LitAt B g 5 lit5 v w
  | 1 => v = .pointer (some ⟨g, 0, none⟩)
  | 2 => IntUp 5 v
  | 3 => StrAt g 5 v w
  | 4 => StrIs 5 v
  | 5 => LitAt B g 3 lit3 v w
  | 6 => v = .pointer (some ⟨g, 0, none⟩)
  | 7 => IntUp 3 v
  | 8 => StrAt g 5 v w
  | 9 => StrIs 5 v
  | 10 => v = .pointer (some ⟨g, 0, none⟩)
  | 11 => StrIs 81 v
  | 12 => v = .pointer (some ⟨g, 0, none⟩)
  | 13 => ∃ d : Int, v = .int .i64 d
  | 14 => ∃ (k t b : ByteArray) (d : Int), v = .agg #[.string k, .string t, .string b, .int .i64 d] ∧ k.size ≤ 81 ∧ t.size ≤ 81 ∧ b.size ≤ 81
  | 15 => VarAt B g 4 30 v w
  | _ => False
theorem QI_mono {B g : Nat} (j : Nat) (v : Value) (w w' : World) (_ : j < 16) (h : QI B g j v w) (hg : w.grownBy w' (some g)) : QI B g j v w' := by
  match j, h with
  | 0, h => exact LitAt.mono h hg
  | 1, h => exact h
  | 2, h => exact h
  | 3, h => exact StrAt.mono h hg
  | 4, h => exact h
  | 5, h => exact LitAt.mono h hg
  | 6, h => exact h
  | 7, h => exact h
  | 8, h => exact StrAt.mono h hg
  | 9, h => exact h
  | 10, h => exact h
  | 11, h => exact h
  | 12, h => exact h
  | 13, h => exact h
  | 14, h => exact h
  | 15, h => exact VarAt.mono h hg
theorem arr4 {cs : Array Value} (h : cs.size = 4) : ∃ a b c d, cs = #[a, b, c, d] := by
  obtain ⟨l⟩ := cs
  match l, h with
  | [a, b, c, d], _ => exact ⟨a, b, c, d, rfl⟩
def ShortI (i : It) : Prop := i.key.size ≤ 81 ∧ i.title.size ≤ 81 ∧ i.body.size ≤ 81
/-- an item, and the reader -/
def DrewI (W w : World) (g m : Nat) (e : Ending) (w' : World) : Prop := ∃ (k t b : ByteArray) (d : Int), e = .returned (.agg #[.string k, .string t, .string b, .int .i64 d]) ∧ ShortI ⟨k, t, b, d⟩ ∧ Rd W w' g m ∧ w.grownBy w' (some g)
/-- behind the item's region: the variable holds it -/
def FinI (W W1 : World) (g m : Nat) (Fr : (Nat → Value) → Act) (a : Act) (w : World) : Prop :=
  ∃ (x : Nat → Value) (q : Nat) (k t b : ByteArray) (d : Int), a = Fr x ∧ x 15 = .pointer (some ⟨q, 0, none⟩) ∧ W1.heap.size ≤ q ∧ q ≠ g ∧ w.heap[q]? = some (.cells #[.string k, .string t, .string b, .int .i64 d] 30 (0, 0)) ∧ ShortI ⟨k, t, b, d⟩ ∧ Rd W w g (m + 8) ∧ W1.grownBy w (some g)
set_option maxRecDepth 100000 in
set_option maxHeartbeats 8000000 in
theorem item_draw (W w : World) (g m : Nat) (n : Int) (h : Rd W w g m) (hm : m ≤ 700000) (hn1 : -1000000 ≤ n) (hn2 : n ≤ 1000000) :
    Calls Try.prog 57 #[.pointer (some ⟨g, 0, none⟩), .int .i64 n] w (DrewI W w g (m + 12)) := by
  have hlt := h.lt
  have hlo := h.lo
  go_enter Try.func57, Try.ntmps57
  go_wp2
  obtain ⟨w1, hw1⟩ : ∃ w1, w.alloc (.cells #[.string ⟨#[]⟩, .string ⟨#[]⟩, .string ⟨#[]⟩, .int .i64 0] 30) = w1 := ⟨_, rfl⟩
  have hr1 : Rd W w1 g m := by rw [← hw1]; exact h.alloc _
  rw [hw1]
  obtain ⟨Fr, hFr⟩ : ∃ Fr : (Nat → Value) → Act, Fr = (fun x => { tmps := #[.pointer (some ⟨g, 0, none⟩), .int .i64 n, undef, undef, .pointer (some ⟨w.heap.size, 0, none⟩), x 15, x 0, x 1, x 2, x 3, x 4, x 5, x 6, x 7, x 8, x 9, x 10, x 11, x 12, x 13, x 14,
      undef, undef, undef, undef, undef, undef, undef, undef, undef, undef, undef, undef, undef, undef, undef, undef, undef, undef, undef, undef, undef, undef, undef, undef, undef, undef, undef, undef, undef, undef], defers := [] }) := ⟨_, rfl⟩
  refine draw_region (n := 16) (by kernel_rfl) rfl W g m [(2, 1), (7, 1), (11, 2), (13, 4)] Fr
    (QI w1.heap.size g) (FinI W w1.drew g m Fr) (by kernel_rfl) (by kernel_rfl) (fun _ => undef) (by rw [hFr]) hr1 QI_mono ?_ ?_ ?_
  · intro i o f x w2 hi ho hf hp hG hQ K hK
    subst hFr
    have hB : w1.heap.size ≤ w2.heap.size := hG.gr.size
    have hcost := cost_all [(2, 1), (7, 1), (11, 2), (13, 4)] f
    have hca : costAll [(2, 1), (7, 1), (11, 2), (13, 4)] = 8 := rfl
    obtain rfl | rfl | rfl | rfl | rfl | rfl | rfl | rfl | rfl | rfl | rfl | rfl | rfl | rfl | rfl | rfl : i = 0 ∨ i = 1 ∨ i = 2 ∨ i = 3 ∨ i = 4 ∨ i = 5 ∨ i = 6 ∨ i = 7 ∨ i = 8 ∨ i = 9 ∨ i = 10 ∨ i = 11 ∨ i = 12 ∨ i = 13 ∨ i = 14 ∨ i = 15 := by omega
    · simp at ho
      subst ho
      rw [if_pos (by rfl)]
      go_simp
      exact hK _ _ (LitAt.new hB hG.lt) (grown_alloc _ _ _) (hG.alloc _ 0)
    · simp at ho
      subst ho
      rw [if_pos (by rfl)]
      go_simp
      exact hK _ _ rfl (grown_refl _ _) (hG.step 1)
    · simp at ho
      subst ho
      have p1 : f 1 = true := hp { on := 1, ground := .data } (by simp) rfl
      have q1 := hQ 1 (by omega) p1
      have q1 : x 1 = .pointer (some ⟨g, 0, none⟩) := q1
      rw [if_pos (by rfl)]
      go_simp
      refine (pick_any W _ g (m + costF [(2, 1), (7, 1), (11, 2), (13, 4)] f) 5 hG.rd' (by omega)).mono ?_
      rintro e w' ⟨v, v0, v1, _, rfl, hr', hg'⟩
      have key := hK _ _ ⟨v, rfl, v0, v1 (by omega)⟩ hg' (hG.call (i := 2) (c := 1) (by simp) hf hr' hg')
      simp [setX, q1] at key
      exact key
    · simp at ho
      subst ho
      have p0 : f 0 = true := hp { on := 0, ground := .data } (by simp) rfl
      have q0 := hQ 0 (by omega) p0
      have p2 : f 2 = true := hp { on := 2, ground := .data } (by simp) rfl
      have q2 := hQ 2 (by omega) p2
      obtain ⟨z, hz, z0, z1⟩ := q2
      obtain ⟨b, hb, hs⟩ := LitAt.at q0 lit5_short rfl z0 z1
      rw [if_pos (by rfl)]
      go_simp
      have key := hK _ _ hs (grown_refl _ _) (hG.step 3)
      simp [setX, hz, hb] at key
      exact key
    · simp at ho
      subst ho
      have p3 : f 3 = true := hp { on := 3, ground := .data } (by simp) rfl
      have q3 := hQ 3 (by omega) p3
      obtain ⟨b, j, s, hx, _, _, hc, hs⟩ := q3
      rw [if_pos (by rfl)]
      go_simp
      have key := hK _ _ ⟨s, rfl, hs⟩ (grown_refl _ _) (hG.step 4)
      simp [setX, hx] at key
      exact key
    · simp at ho
      subst ho
      rw [if_pos (by rfl)]
      go_simp
      exact hK _ _ (LitAt.new hB hG.lt) (grown_alloc _ _ _) (hG.alloc _ 5)
    · simp at ho
      subst ho
      rw [if_pos (by rfl)]
      go_simp
      exact hK _ _ rfl (grown_refl _ _) (hG.step 6)
    · simp at ho
      subst ho
      have p6 : f 6 = true := hp { on := 6, ground := .data } (by simp) rfl
      have q6 := hQ 6 (by omega) p6
      have q6 : x 6 = .pointer (some ⟨g, 0, none⟩) := q6
      rw [if_pos (by rfl)]
      go_simp
      refine (pick_any W _ g (m + costF [(2, 1), (7, 1), (11, 2), (13, 4)] f) 3 hG.rd' (by omega)).mono ?_
      rintro e w' ⟨v, v0, v1, _, rfl, hr', hg'⟩
      have key := hK _ _ ⟨v, rfl, v0, v1 (by omega)⟩ hg' (hG.call (i := 7) (c := 1) (by simp) hf hr' hg')
      simp [setX, q6] at key
      exact key
    · simp at ho
      subst ho
      have p5 : f 5 = true := hp { on := 5, ground := .data } (by simp) rfl
      have q5 := hQ 5 (by omega) p5
      have p7 : f 7 = true := hp { on := 7, ground := .data } (by simp) rfl
      have q7 := hQ 7 (by omega) p7
      obtain ⟨z, hz, z0, z1⟩ := q7
      obtain ⟨b, hb, hs⟩ := LitAt.at q5 lit3_short rfl z0 z1
      rw [if_pos (by rfl)]
      go_simp
      have key := hK _ _ hs (grown_refl _ _) (hG.step 8)
      simp [setX, hz, hb] at key
      exact key
    · simp at ho
      subst ho
      have p8 : f 8 = true := hp { on := 8, ground := .data } (by simp) rfl
      have q8 := hQ 8 (by omega) p8
      obtain ⟨b, j, s, hx, _, _, hc, hs⟩ := q8
      rw [if_pos (by rfl)]
      go_simp
      have key := hK _ _ ⟨s, rfl, hs⟩ (grown_refl _ _) (hG.step 9)
      simp [setX, hx] at key
      exact key
    · simp at ho
      subst ho
      rw [if_pos (by rfl)]
      go_simp
      exact hK _ _ rfl (grown_refl _ _) (hG.step 10)
    · simp at ho
      subst ho
      have p10 : f 10 = true := hp { on := 10, ground := .data } (by simp) rfl
      have q10 := hQ 10 (by omega) p10
      have q10 : x 10 = .pointer (some ⟨g, 0, none⟩) := q10
      rw [if_pos (by rfl)]
      go_simp
      refine (text_draw W _ g (m + costF [(2, 1), (7, 1), (11, 2), (13, 4)] f) 0 hG.rd' (by omega) (by omega) (by omega)).mono ?_
      rintro e w' ⟨s, hs, rfl, hr', hg'⟩
      have key := hK _ _ ⟨s, rfl, hs⟩ hg' (hG.call (i := 11) (c := 2) (by simp) hf hr' hg')
      simp [setX, q10] at key
      exact key
    · simp at ho
      subst ho
      rw [if_pos (by rfl)]
      go_simp
      exact hK _ _ rfl (grown_refl _ _) (hG.step 12)
    · simp at ho
      subst ho
      have p12 : f 12 = true := hp { on := 12, ground := .data } (by simp) rfl
      have q12 := hQ 12 (by omega) p12
      have q12 : x 12 = .pointer (some ⟨g, 0, none⟩) := q12
      rw [if_pos (by rfl)]
      go_simp
      refine (day_draw W _ g (m + costF [(2, 1), (7, 1), (11, 2), (13, 4)] f) hG.rd' (by omega)).mono ?_
      rintro e w' ⟨d, rfl, hr', hg'⟩
      have key := hK _ _ ⟨d, rfl⟩ hg' (hG.call (i := 13) (c := 4) (by simp) hf hr' hg')
      simp [setX, q12] at key
      exact key
    · simp at ho
      subst ho
      have p4 : f 4 = true := hp { on := 4, ground := .data } (by simp) rfl
      have q4 := hQ 4 (by omega) p4
      have p9 : f 9 = true := hp { on := 9, ground := .data } (by simp) rfl
      have q9 := hQ 9 (by omega) p9
      have p11 : f 11 = true := hp { on := 11, ground := .data } (by simp) rfl
      have q11 := hQ 11 (by omega) p11
      have p13 : f 13 = true := hp { on := 13, ground := .data } (by simp) rfl
      have q13 := hQ 13 (by omega) p13
      obtain ⟨s4, h4, l4⟩ := q4
      obtain ⟨s9, h9, l9⟩ := q9
      obtain ⟨s11, h11, l11⟩ := q11
      obtain ⟨d13, h13⟩ := q13
      rw [if_pos (by rfl)]
      go_simp
      have key := hK _ _ ⟨s4, s9, s11, d13, rfl, by omega, by omega, l11⟩ (grown_refl _ _) (hG.step 14)
      simp [setX, h4, h9, h11, h13] at key
      exact key
    · simp at ho
      subst ho
      rw [if_pos (by rfl)]
      go_simp
      exact hK _ _ (VarAt.new hB hG.lt rfl) (grown_alloc _ _ _) (hG.alloc _ 15)
  · intro o f x w2 ho hp hG hQ K hK
    subst hFr
    have hB : w1.heap.size ≤ w2.heap.size := hG.gr.size
    have hcost := cost_all [(2, 1), (7, 1), (11, 2), (13, 4)] f
    have hca : costAll [(2, 1), (7, 1), (11, 2), (13, 4)] = 8 := rfl
    simp at ho
    subst ho
    have p14 : f 14 = true := hp { on := 14, ground := .data } (by simp) rfl
    have p15 : f 15 = true := hp { on := 15, ground := .data } (by simp) rfl
    obtain ⟨k, t, b, d, h14, hsh⟩ := hQ 14 (by omega) p14
    obtain ⟨q, cs, h15, hq1, hq2, hcs, hrow⟩ := hQ 15 (by omega) p15
    obtain ⟨y0, y1, y2, y3, rfl⟩ := arr4 hcs
    have c0 := cell_of_row w2 q 0 _ _ (0, 0) hrow
    have c1 := cell_of_row w2 q 1 _ _ (0, 0) hrow
    have c2 := cell_of_row w2 q 2 _ _ (0, 0) hrow
    have c3 := cell_of_row w2 q 3 _ _ (0, 0) hrow
    have f0 : ∀ j, w2.frozen? ⟨q, j, none⟩ = false := fun j => by simp [World.frozen?, hrow]
    have h1 := heap_setCell_same w2 q 0 _ _ (.string k) hrow
    have h2 := heap_setCell_same _ q 1 _ _ (.string t) h1
    have h3 := heap_setCell_same _ q 2 _ _ (.string b) h2
    have h4 := heap_setCell_same _ q 3 _ _ (.int .i64 d) h3
    have H4 := Lib.hid h4
    have HG := Lib.hid ((((hG.store (b := q) hq1 hq2 (by show W.heap.size ≤ w1.heap.size; exact hr1.bel.size) 0 (.string k)).store (b := q) hq1 hq2 (by show W.heap.size ≤ w1.heap.size; exact hr1.bel.size) 1 (.string t)).store (b := q) hq1 hq2 (by show W.heap.size ≤ w1.heap.size; exact hr1.bel.size) 2 (.string b)).store (b := q) hq1 hq2 (by show W.heap.size ≤ w1.heap.size; exact hr1.bel.size) 3 (.int .i64 d))
    clear h1 h2 h3 h4
    rw [if_pos (by rfl)]
    go_simp
    refine hK _ _ ⟨x, q, k, t, b, d, ?_, h15, hq1, hq2, ?_, hsh, HG.out.rd'.more (by omega), HG.out.gr⟩
    · simp [h14, h15]
    · exact H4.out
  · rintro a w3 ⟨x, q, k, t, b, d, rfl, hx, hq1, hq2, hrow, hsh, hr3, hg3⟩
    subst hFr
    have hWw : W.heap.size ≤ w.heap.size := h.bel.size
    have hq1 : w1.heap.size ≤ q := hq1
    have hw1s : w1.heap.size = w.heap.size + 1 := by rw [← hw1]; simp
    have hqr : q ≠ w.heap.size := by omega
    have hgw1 : w.grownBy w1 (some g) := by rw [← hw1]; exact grown_alloc w _ _
    have hg13 : w1.grownBy w3 (some g) := ⟨hg3.os, hg3.tape, hg3.output, hg3.size, hg3.block⟩
    have hg30 := grown_trans hgw1 hg13
    have hres : w3.heap[w.heap.size]? = some (.cells #[.string ⟨#[]⟩, .string ⟨#[]⟩, .string ⟨#[]⟩, .int .i64 0] 30 (0, 0)) := by
      rw [hg3.block w.heap.size (by show _ < w1.heap.size; omega) (by intro e; injection e; omega)]
      show w1.heap[w.heap.size]? = _
      rw [← hw1]; exact heap_alloc_new w _
    have hql : q < w3.heap.size := (Array.getElem?_eq_some_iff.1 hrow).1
    have hrl : w.heap.size < w3.heap.size := (Array.getElem?_eq_some_iff.1 hres).1
    obtain ⟨s1, s2, s3⟩ := hsh
    simp only at s1 s2 s3
    clear hw1 hg3 hgw1 hg13
    go_wp2_with fail
    refine (odd_any W w3 g (m + 8) n hr3 (by omega) hn1 hn2).mono ?_
    rintro e w4 ⟨bb, rfl, hr4, hg4⟩
    have hrow4 := (hg4.block q hql (by intro e; injection e; omega)).trans hrow
    have hres4 := (hg4.block w.heap.size hrl (by intro e; injection e; omega)).trans hres
    have hg40 := grown_trans hg30 hg4
    have hql4 : q < w4.heap.size := (Array.getElem?_eq_some_iff.1 hrow4).1
    have hrl4 : w.heap.size < w4.heap.size := (Array.getElem?_eq_some_iff.1 hres4).1
    clear hg4 hg30 hr3 hrow hres
    rcases bb with _ | _
    · have HROW := hrow4
      have HRES := hres4
      have HD : DrawG W w g (m + 12) [] (fun _ => false) w4 := ⟨⟨m + 9, hr4, by simp [costF]⟩, hg40⟩
      have c0 : (w4).cell? ⟨q, 0, none⟩ = some (.string k) := cell_of_row _ q 0 _ _ (0, 0) HROW
      have c1 : (w4).cell? ⟨q, 1, none⟩ = some (.string t) := cell_of_row _ q 1 _ _ (0, 0) HROW
      have c2 : (w4).cell? ⟨q, 2, none⟩ = some (.string b) := cell_of_row _ q 2 _ _ (0, 0) HROW
      have c3 : (w4).cell? ⟨q, 3, none⟩ = some (.int .i64 d) := cell_of_row _ q 3 _ _ (0, 0) HROW
      have r0 : (w4).cell? ⟨w.heap.size, 0, none⟩ = some (.string ⟨#[]⟩) := cell_of_row _ w.heap.size 0 _ _ (0, 0) HRES
      have r1 : (w4).cell? ⟨w.heap.size, 1, none⟩ = some (.string ⟨#[]⟩) := cell_of_row _ w.heap.size 1 _ _ (0, 0) HRES
      have r2 : (w4).cell? ⟨w.heap.size, 2, none⟩ = some (.string ⟨#[]⟩) := cell_of_row _ w.heap.size 2 _ _ (0, 0) HRES
      have r3 : (w4).cell? ⟨w.heap.size, 3, none⟩ = some (.int .i64 0) := cell_of_row _ w.heap.size 3 _ _ (0, 0) HRES
      have rf : ∀ j, (w4).frozen? ⟨w.heap.size, j, none⟩ = false := fun j => by have := HRES; simp [World.frozen?, this]
      go_wp2
      refine bodyPost_ret (v := .agg #[.string k, .string t, .string b, .int .i64 d]) (by simp [results, Try.results57, go_sem, r0, r1, r2, r3]) rfl ⟨k, t, b, d, rfl, ⟨s1, s2, s3⟩, ?_, ?_⟩
      · exact ((((HD.store (b := w.heap.size) (Nat.le_refl _) (by omega) hWw 0 _).store (b := w.heap.size) (Nat.le_refl _) (by omega) hWw 1 _).store (b := w.heap.size) (Nat.le_refl _) (by omega) hWw 2 _).store (b := w.heap.size) (Nat.le_refl _) (by omega) hWw 3 _).rd'.more (by simp [costF])
      · exact ((((HD.store (b := w.heap.size) (Nat.le_refl _) (by omega) hWw 0 _).store (b := w.heap.size) (Nat.le_refl _) (by omega) hWw 1 _).store (b := w.heap.size) (Nat.le_refl _) (by omega) hWw 2 _).store (b := w.heap.size) (Nat.le_refl _) (by omega) hWw 3 _).gr
    · go_wp2_with fail
      refine (pick_any W w4 g (m + 9) 4 hr4 (by omega)).mono ?_
      rintro e w5 ⟨v, v0, v1, _, rfl, hr5, hg5⟩
      have v1 := v1 (by omega)
      have hrow5 := (hg5.block q hql4 (by intro e; injection e; omega)).trans hrow4
      have hres5 := (hg5.block w.heap.size hrl4 (by intro e; injection e; omega)).trans hres4
      have hg50 := grown_trans hg40 hg5
      have hql5 : q < w5.heap.size := (Array.getElem?_eq_some_iff.1 hrow5).1
      have hrl5 : w.heap.size < w5.heap.size := (Array.getElem?_eq_some_iff.1 hres5).1
      clear hg5 hg40 hr4 hrow4 hres4 hql4 hrl4
      obtain rfl | rfl | rfl | rfl : v = 0 ∨ v = 1 ∨ v = 2 ∨ v = 3 := by omega
      · go_wp2_with fail
        refine (word_draw W _ g (m + 10) 1 hr5 (by omega) (by omega) (by omega)).mono ?_
        rintro e w6 ⟨s6, hs6, rfl, hr6, hg6⟩
        have hrow6 := (hg6.block q hql5 (by intro e; injection e; omega)).trans hrow5
        have hres6 := (hg6.block w.heap.size hrl5 (by intro e; injection e; omega)).trans hres5
        have cq : w6.cell? ⟨q, 0, none⟩ = some (.string k) := cell_of_row _ q 0 _ _ (0, 0) hrow6
        have fq : w6.frozen? ⟨q, 0, none⟩ = false := by simp [World.frozen?, hrow6]
        have HROW := heap_setCell_same w6 q 0 _ _ (.string s6) hrow6
        have HRES := (Below.heap_setCell w6 ⟨q, 0, none⟩ (.string s6) w.heap.size (Ne.symm hqr)).trans hres6
        have HD0 : DrawG W w g (m + 12) [] (fun _ => false) w6 := ⟨⟨m + 12, hr6.more (by omega), by simp [costF]⟩, grown_trans hg50 hg6⟩
        have HD := HD0.store (b := q) (by omega) hq2 hWw 0 (.string s6)
        have c0 : (w6.setCell ⟨q, 0, none⟩ (.string s6)).cell? ⟨q, 0, none⟩ = some (.string s6) := cell_of_row _ q 0 _ _ (0, 0) HROW
        have c1 : (w6.setCell ⟨q, 0, none⟩ (.string s6)).cell? ⟨q, 1, none⟩ = some (.string t) := cell_of_row _ q 1 _ _ (0, 0) HROW
        have c2 : (w6.setCell ⟨q, 0, none⟩ (.string s6)).cell? ⟨q, 2, none⟩ = some (.string b) := cell_of_row _ q 2 _ _ (0, 0) HROW
        have c3 : (w6.setCell ⟨q, 0, none⟩ (.string s6)).cell? ⟨q, 3, none⟩ = some (.int .i64 d) := cell_of_row _ q 3 _ _ (0, 0) HROW
        have r0 : (w6.setCell ⟨q, 0, none⟩ (.string s6)).cell? ⟨w.heap.size, 0, none⟩ = some (.string ⟨#[]⟩) := cell_of_row _ w.heap.size 0 _ _ (0, 0) HRES
        have r1 : (w6.setCell ⟨q, 0, none⟩ (.string s6)).cell? ⟨w.heap.size, 1, none⟩ = some (.string ⟨#[]⟩) := cell_of_row _ w.heap.size 1 _ _ (0, 0) HRES
        have r2 : (w6.setCell ⟨q, 0, none⟩ (.string s6)).cell? ⟨w.heap.size, 2, none⟩ = some (.string ⟨#[]⟩) := cell_of_row _ w.heap.size 2 _ _ (0, 0) HRES
        have r3 : (w6.setCell ⟨q, 0, none⟩ (.string s6)).cell? ⟨w.heap.size, 3, none⟩ = some (.int .i64 0) := cell_of_row _ w.heap.size 3 _ _ (0, 0) HRES
        have rf : ∀ j, (w6.setCell ⟨q, 0, none⟩ (.string s6)).frozen? ⟨w.heap.size, j, none⟩ = false := fun j => by have := HRES; simp [World.frozen?, this]
        go_wp2
        refine bodyPost_ret (v := .agg #[.string s6, .string t, .string b, .int .i64 d]) (by simp [results, Try.results57, go_sem, r0, r1, r2, r3]) rfl ⟨s6, t, b, d, rfl, ⟨by show s6.size ≤ 81; omega, s2, s3⟩, ?_, ?_⟩
        · exact ((((HD.store (b := w.heap.size) (Nat.le_refl _) (by omega) hWw 0 _).store (b := w.heap.size) (Nat.le_refl _) (by omega) hWw 1 _).store (b := w.heap.size) (Nat.le_refl _) (by omega) hWw 2 _).store (b := w.heap.size) (Nat.le_refl _) (by omega) hWw 3 _).rd'.more (by simp [costF])
        · exact ((((HD.store (b := w.heap.size) (Nat.le_refl _) (by omega) hWw 0 _).store (b := w.heap.size) (Nat.le_refl _) (by omega) hWw 1 _).store (b := w.heap.size) (Nat.le_refl _) (by omega) hWw 2 _).store (b := w.heap.size) (Nat.le_refl _) (by omega) hWw 3 _).gr
      · go_wp2_with fail
        refine (pick_any W _ g (m + 10) 2 (hr5.alloc _) (by omega)).mono ?_
        rintro e w6 ⟨v6, a6, b6, _, rfl, hr6, hg6⟩
        have b6 := b6 (by omega)
        have k0 := cell_kept hg6 hr5.lt
        have hrow6 := (hg6.block q (by simp; omega) (by intro e; injection e; omega)).trans ((Below.heap_alloc w5 _ q hql5).trans hrow5)
        have hres6 := (hg6.block w.heap.size (by simp; omega) (by intro e; injection e; omega)).trans ((Below.heap_alloc w5 _ w.heap.size hrl5).trans hres5)
        have hg60 := grown_trans hg50 (grown_trans (grown_alloc w5 _ _) hg6)
        clear hg6
        have cq : w6.cell? ⟨q, 1, none⟩ = some (.string t) := cell_of_row _ q 1 _ _ (0, 0) hrow6
        have fq : w6.frozen? ⟨q, 1, none⟩ = false := by simp [World.frozen?, hrow6]
        have HD0 : DrawG W w g (m + 12) [] (fun _ => false) w6 := ⟨⟨m + 12, hr6.more (by omega), by simp [costF]⟩, hg60⟩
        obtain rfl | rfl : v6 = 0 ∨ v6 = 1 := by omega
        · have HROW := heap_setCell_same w6 q 1 _ _ (.string ⟨#[]⟩) hrow6
          have HRES := (Below.heap_setCell w6 ⟨q, 1, none⟩ (.string ⟨#[]⟩) w.heap.size (Ne.symm hqr)).trans hres6
          have HD := HD0.store (b := q) (by omega) hq2 hWw 1 (.string ⟨#[]⟩)
          have c0 : (w6.setCell ⟨q, 1, none⟩ (.string ⟨#[]⟩)).cell? ⟨q, 0, none⟩ = some (.string k) := cell_of_row _ q 0 _ _ (0, 0) HROW
          have c1 : (w6.setCell ⟨q, 1, none⟩ (.string ⟨#[]⟩)).cell? ⟨q, 1, none⟩ = some (.string ⟨#[]⟩) := cell_of_row _ q 1 _ _ (0, 0) HROW
          have c2 : (w6.setCell ⟨q, 1, none⟩ (.string ⟨#[]⟩)).cell? ⟨q, 2, none⟩ = some (.string b) := cell_of_row _ q 2 _ _ (0, 0) HROW
          have c3 : (w6.setCell ⟨q, 1, none⟩ (.string ⟨#[]⟩)).cell? ⟨q, 3, none⟩ = some (.int .i64 d) := cell_of_row _ q 3 _ _ (0, 0) HROW
          have r0 : (w6.setCell ⟨q, 1, none⟩ (.string ⟨#[]⟩)).cell? ⟨w.heap.size, 0, none⟩ = some (.string ⟨#[]⟩) := cell_of_row _ w.heap.size 0 _ _ (0, 0) HRES
          have r1 : (w6.setCell ⟨q, 1, none⟩ (.string ⟨#[]⟩)).cell? ⟨w.heap.size, 1, none⟩ = some (.string ⟨#[]⟩) := cell_of_row _ w.heap.size 1 _ _ (0, 0) HRES
          have r2 : (w6.setCell ⟨q, 1, none⟩ (.string ⟨#[]⟩)).cell? ⟨w.heap.size, 2, none⟩ = some (.string ⟨#[]⟩) := cell_of_row _ w.heap.size 2 _ _ (0, 0) HRES
          have r3 : (w6.setCell ⟨q, 1, none⟩ (.string ⟨#[]⟩)).cell? ⟨w.heap.size, 3, none⟩ = some (.int .i64 0) := cell_of_row _ w.heap.size 3 _ _ (0, 0) HRES
          have rf : ∀ j, (w6.setCell ⟨q, 1, none⟩ (.string ⟨#[]⟩)).frozen? ⟨w.heap.size, j, none⟩ = false := fun j => by have := HRES; simp [World.frozen?, this]
          go_wp2
          refine bodyPost_ret (v := .agg #[.string k, .string ⟨#[]⟩, .string b, .int .i64 d]) (by simp [results, Try.results57, go_sem, r0, r1, r2, r3]) rfl ⟨k, ⟨#[]⟩, b, d, rfl, ⟨s1, (by show (0 : Nat) ≤ 81; omega), s3⟩, ?_, ?_⟩
          · exact ((((HD.store (b := w.heap.size) (Nat.le_refl _) (by omega) hWw 0 _).store (b := w.heap.size) (Nat.le_refl _) (by omega) hWw 1 _).store (b := w.heap.size) (Nat.le_refl _) (by omega) hWw 2 _).store (b := w.heap.size) (Nat.le_refl _) (by omega) hWw 3 _).rd'.more (by simp [costF])
          · exact ((((HD.store (b := w.heap.size) (Nat.le_refl _) (by omega) hWw 0 _).store (b := w.heap.size) (Nat.le_refl _) (by omega) hWw 1 _).store (b := w.heap.size) (Nat.le_refl _) (by omega) hWw 2 _).store (b := w.heap.size) (Nat.le_refl _) (by omega) hWw 3 _).gr
        · have HROW := heap_setCell_same w6 q 1 _ _ (.string ⟨#[10]⟩) hrow6
          have HRES := (Below.heap_setCell w6 ⟨q, 1, none⟩ (.string ⟨#[10]⟩) w.heap.size (Ne.symm hqr)).trans hres6
          have HD := HD0.store (b := q) (by omega) hq2 hWw 1 (.string ⟨#[10]⟩)
          have c0 : (w6.setCell ⟨q, 1, none⟩ (.string ⟨#[10]⟩)).cell? ⟨q, 0, none⟩ = some (.string k) := cell_of_row _ q 0 _ _ (0, 0) HROW
          have c1 : (w6.setCell ⟨q, 1, none⟩ (.string ⟨#[10]⟩)).cell? ⟨q, 1, none⟩ = some (.string ⟨#[10]⟩) := cell_of_row _ q 1 _ _ (0, 0) HROW
          have c2 : (w6.setCell ⟨q, 1, none⟩ (.string ⟨#[10]⟩)).cell? ⟨q, 2, none⟩ = some (.string b) := cell_of_row _ q 2 _ _ (0, 0) HROW
          have c3 : (w6.setCell ⟨q, 1, none⟩ (.string ⟨#[10]⟩)).cell? ⟨q, 3, none⟩ = some (.int .i64 d) := cell_of_row _ q 3 _ _ (0, 0) HROW
          have r0 : (w6.setCell ⟨q, 1, none⟩ (.string ⟨#[10]⟩)).cell? ⟨w.heap.size, 0, none⟩ = some (.string ⟨#[]⟩) := cell_of_row _ w.heap.size 0 _ _ (0, 0) HRES
          have r1 : (w6.setCell ⟨q, 1, none⟩ (.string ⟨#[10]⟩)).cell? ⟨w.heap.size, 1, none⟩ = some (.string ⟨#[]⟩) := cell_of_row _ w.heap.size 1 _ _ (0, 0) HRES
          have r2 : (w6.setCell ⟨q, 1, none⟩ (.string ⟨#[10]⟩)).cell? ⟨w.heap.size, 2, none⟩ = some (.string ⟨#[]⟩) := cell_of_row _ w.heap.size 2 _ _ (0, 0) HRES
          have r3 : (w6.setCell ⟨q, 1, none⟩ (.string ⟨#[10]⟩)).cell? ⟨w.heap.size, 3, none⟩ = some (.int .i64 0) := cell_of_row _ w.heap.size 3 _ _ (0, 0) HRES
          have rf : ∀ j, (w6.setCell ⟨q, 1, none⟩ (.string ⟨#[10]⟩)).frozen? ⟨w.heap.size, j, none⟩ = false := fun j => by have := HRES; simp [World.frozen?, this]
          go_wp2
          refine bodyPost_ret (v := .agg #[.string k, .string ⟨#[10]⟩, .string b, .int .i64 d]) (by simp [results, Try.results57, go_sem, r0, r1, r2, r3]) rfl ⟨k, ⟨#[10]⟩, b, d, rfl, ⟨s1, (by show (1 : Nat) ≤ 81; omega), s3⟩, ?_, ?_⟩
          · exact ((((HD.store (b := w.heap.size) (Nat.le_refl _) (by omega) hWw 0 _).store (b := w.heap.size) (Nat.le_refl _) (by omega) hWw 1 _).store (b := w.heap.size) (Nat.le_refl _) (by omega) hWw 2 _).store (b := w.heap.size) (Nat.le_refl _) (by omega) hWw 3 _).rd'.more (by simp [costF])
          · exact ((((HD.store (b := w.heap.size) (Nat.le_refl _) (by omega) hWw 0 _).store (b := w.heap.size) (Nat.le_refl _) (by omega) hWw 1 _).store (b := w.heap.size) (Nat.le_refl _) (by omega) hWw 2 _).store (b := w.heap.size) (Nat.le_refl _) (by omega) hWw 3 _).gr
      · go_wp2_with fail
        refine (text_draw W _ g (m + 10) 1 hr5 (by omega) (by omega) (by omega)).mono ?_
        rintro e w6 ⟨s6, hs6, rfl, hr6, hg6⟩
        have hrow6 := (hg6.block q hql5 (by intro e; injection e; omega)).trans hrow5
        have hres6 := (hg6.block w.heap.size hrl5 (by intro e; injection e; omega)).trans hres5
        have cq : w6.cell? ⟨q, 2, none⟩ = some (.string b) := cell_of_row _ q 2 _ _ (0, 0) hrow6
        have fq : w6.frozen? ⟨q, 2, none⟩ = false := by simp [World.frozen?, hrow6]
        have HROW := heap_setCell_same w6 q 2 _ _ (.string s6) hrow6
        have HRES := (Below.heap_setCell w6 ⟨q, 2, none⟩ (.string s6) w.heap.size (Ne.symm hqr)).trans hres6
        have HD0 : DrawG W w g (m + 12) [] (fun _ => false) w6 := ⟨⟨m + 12, hr6.more (by omega), by simp [costF]⟩, grown_trans hg50 hg6⟩
        have HD := HD0.store (b := q) (by omega) hq2 hWw 2 (.string s6)
        have c0 : (w6.setCell ⟨q, 2, none⟩ (.string s6)).cell? ⟨q, 0, none⟩ = some (.string k) := cell_of_row _ q 0 _ _ (0, 0) HROW
        have c1 : (w6.setCell ⟨q, 2, none⟩ (.string s6)).cell? ⟨q, 1, none⟩ = some (.string t) := cell_of_row _ q 1 _ _ (0, 0) HROW
        have c2 : (w6.setCell ⟨q, 2, none⟩ (.string s6)).cell? ⟨q, 2, none⟩ = some (.string s6) := cell_of_row _ q 2 _ _ (0, 0) HROW
        have c3 : (w6.setCell ⟨q, 2, none⟩ (.string s6)).cell? ⟨q, 3, none⟩ = some (.int .i64 d) := cell_of_row _ q 3 _ _ (0, 0) HROW
        have r0 : (w6.setCell ⟨q, 2, none⟩ (.string s6)).cell? ⟨w.heap.size, 0, none⟩ = some (.string ⟨#[]⟩) := cell_of_row _ w.heap.size 0 _ _ (0, 0) HRES
        have r1 : (w6.setCell ⟨q, 2, none⟩ (.string s6)).cell? ⟨w.heap.size, 1, none⟩ = some (.string ⟨#[]⟩) := cell_of_row _ w.heap.size 1 _ _ (0, 0) HRES
        have r2 : (w6.setCell ⟨q, 2, none⟩ (.string s6)).cell? ⟨w.heap.size, 2, none⟩ = some (.string ⟨#[]⟩) := cell_of_row _ w.heap.size 2 _ _ (0, 0) HRES
        have r3 : (w6.setCell ⟨q, 2, none⟩ (.string s6)).cell? ⟨w.heap.size, 3, none⟩ = some (.int .i64 0) := cell_of_row _ w.heap.size 3 _ _ (0, 0) HRES
        have rf : ∀ j, (w6.setCell ⟨q, 2, none⟩ (.string s6)).frozen? ⟨w.heap.size, j, none⟩ = false := fun j => by have := HRES; simp [World.frozen?, this]
        go_wp2
        refine bodyPost_ret (v := .agg #[.string k, .string t, .string s6, .int .i64 d]) (by simp [results, Try.results57, go_sem, r0, r1, r2, r3]) rfl ⟨k, t, s6, d, rfl, ⟨s1, s2, hs6⟩, ?_, ?_⟩
        · exact ((((HD.store (b := w.heap.size) (Nat.le_refl _) (by omega) hWw 0 _).store (b := w.heap.size) (Nat.le_refl _) (by omega) hWw 1 _).store (b := w.heap.size) (Nat.le_refl _) (by omega) hWw 2 _).store (b := w.heap.size) (Nat.le_refl _) (by omega) hWw 3 _).rd'.more (by simp [costF])
        · exact ((((HD.store (b := w.heap.size) (Nat.le_refl _) (by omega) hWw 0 _).store (b := w.heap.size) (Nat.le_refl _) (by omega) hWw 1 _).store (b := w.heap.size) (Nat.le_refl _) (by omega) hWw 2 _).store (b := w.heap.size) (Nat.le_refl _) (by omega) hWw 3 _).gr
      · go_wp2_with fail
        refine (pick_any W _ g (m + 10) 2 (hr5.alloc _) (by omega)).mono ?_
        rintro e w6 ⟨v6, a6, b6, _, rfl, hr6, hg6⟩
        have b6 := b6 (by omega)
        have k0 := cell_kept hg6 hr5.lt
        have hrow6 := (hg6.block q (by simp; omega) (by intro e; injection e; omega)).trans ((Below.heap_alloc w5 _ q hql5).trans hrow5)
        have hres6 := (hg6.block w.heap.size (by simp; omega) (by intro e; injection e; omega)).trans ((Below.heap_alloc w5 _ w.heap.size hrl5).trans hres5)
        have hg60 := grown_trans hg50 (grown_trans (grown_alloc w5 _ _) hg6)
        clear hg6
        have cq : w6.cell? ⟨q, 3, none⟩ = some (.int .i64 d) := cell_of_row _ q 3 _ _ (0, 0) hrow6
        have fq : w6.frozen? ⟨q, 3, none⟩ = false := by simp [World.frozen?, hrow6]
        have HD0 : DrawG W w g (m + 12) [] (fun _ => false) w6 := ⟨⟨m + 12, hr6.more (by omega), by simp [costF]⟩, hg60⟩
        obtain rfl | rfl : v6 = 0 ∨ v6 = 1 := by omega
        · have HROW := heap_setCell_same w6 q 3 _ _ (.int .i64 (-1)) hrow6
          have HRES := (Below.heap_setCell w6 ⟨q, 3, none⟩ (.int .i64 (-1)) w.heap.size (Ne.symm hqr)).trans hres6
          have HD := HD0.store (b := q) (by omega) hq2 hWw 3 (.int .i64 (-1))
          have c0 : (w6.setCell ⟨q, 3, none⟩ (.int .i64 (-1))).cell? ⟨q, 0, none⟩ = some (.string k) := cell_of_row _ q 0 _ _ (0, 0) HROW
          have c1 : (w6.setCell ⟨q, 3, none⟩ (.int .i64 (-1))).cell? ⟨q, 1, none⟩ = some (.string t) := cell_of_row _ q 1 _ _ (0, 0) HROW
          have c2 : (w6.setCell ⟨q, 3, none⟩ (.int .i64 (-1))).cell? ⟨q, 2, none⟩ = some (.string b) := cell_of_row _ q 2 _ _ (0, 0) HROW
          have c3 : (w6.setCell ⟨q, 3, none⟩ (.int .i64 (-1))).cell? ⟨q, 3, none⟩ = some (.int .i64 (-1)) := cell_of_row _ q 3 _ _ (0, 0) HROW
          have r0 : (w6.setCell ⟨q, 3, none⟩ (.int .i64 (-1))).cell? ⟨w.heap.size, 0, none⟩ = some (.string ⟨#[]⟩) := cell_of_row _ w.heap.size 0 _ _ (0, 0) HRES
          have r1 : (w6.setCell ⟨q, 3, none⟩ (.int .i64 (-1))).cell? ⟨w.heap.size, 1, none⟩ = some (.string ⟨#[]⟩) := cell_of_row _ w.heap.size 1 _ _ (0, 0) HRES
          have r2 : (w6.setCell ⟨q, 3, none⟩ (.int .i64 (-1))).cell? ⟨w.heap.size, 2, none⟩ = some (.string ⟨#[]⟩) := cell_of_row _ w.heap.size 2 _ _ (0, 0) HRES
          have r3 : (w6.setCell ⟨q, 3, none⟩ (.int .i64 (-1))).cell? ⟨w.heap.size, 3, none⟩ = some (.int .i64 0) := cell_of_row _ w.heap.size 3 _ _ (0, 0) HRES
          have rf : ∀ j, (w6.setCell ⟨q, 3, none⟩ (.int .i64 (-1))).frozen? ⟨w.heap.size, j, none⟩ = false := fun j => by have := HRES; simp [World.frozen?, this]
          go_wp2
          refine bodyPost_ret (v := .agg #[.string k, .string t, .string b, .int .i64 (-1)]) (by simp [results, Try.results57, go_sem, r0, r1, r2, r3]) rfl ⟨k, t, b, (-1), rfl, ⟨s1, s2, s3⟩, ?_, ?_⟩
          · exact ((((HD.store (b := w.heap.size) (Nat.le_refl _) (by omega) hWw 0 _).store (b := w.heap.size) (Nat.le_refl _) (by omega) hWw 1 _).store (b := w.heap.size) (Nat.le_refl _) (by omega) hWw 2 _).store (b := w.heap.size) (Nat.le_refl _) (by omega) hWw 3 _).rd'.more (by simp [costF])
          · exact ((((HD.store (b := w.heap.size) (Nat.le_refl _) (by omega) hWw 0 _).store (b := w.heap.size) (Nat.le_refl _) (by omega) hWw 1 _).store (b := w.heap.size) (Nat.le_refl _) (by omega) hWw 2 _).store (b := w.heap.size) (Nat.le_refl _) (by omega) hWw 3 _).gr
        · have HROW := heap_setCell_same w6 q 3 _ _ (.int .i64 1460970) hrow6
          have HRES := (Below.heap_setCell w6 ⟨q, 3, none⟩ (.int .i64 1460970) w.heap.size (Ne.symm hqr)).trans hres6
          have HD := HD0.store (b := q) (by omega) hq2 hWw 3 (.int .i64 1460970)
          have c0 : (w6.setCell ⟨q, 3, none⟩ (.int .i64 1460970)).cell? ⟨q, 0, none⟩ = some (.string k) := cell_of_row _ q 0 _ _ (0, 0) HROW
          have c1 : (w6.setCell ⟨q, 3, none⟩ (.int .i64 1460970)).cell? ⟨q, 1, none⟩ = some (.string t) := cell_of_row _ q 1 _ _ (0, 0) HROW
          have c2 : (w6.setCell ⟨q, 3, none⟩ (.int .i64 1460970)).cell? ⟨q, 2, none⟩ = some (.string b) := cell_of_row _ q 2 _ _ (0, 0) HROW
          have c3 : (w6.setCell ⟨q, 3, none⟩ (.int .i64 1460970)).cell? ⟨q, 3, none⟩ = some (.int .i64 1460970) := cell_of_row _ q 3 _ _ (0, 0) HROW
          have r0 : (w6.setCell ⟨q, 3, none⟩ (.int .i64 1460970)).cell? ⟨w.heap.size, 0, none⟩ = some (.string ⟨#[]⟩) := cell_of_row _ w.heap.size 0 _ _ (0, 0) HRES
          have r1 : (w6.setCell ⟨q, 3, none⟩ (.int .i64 1460970)).cell? ⟨w.heap.size, 1, none⟩ = some (.string ⟨#[]⟩) := cell_of_row _ w.heap.size 1 _ _ (0, 0) HRES
          have r2 : (w6.setCell ⟨q, 3, none⟩ (.int .i64 1460970)).cell? ⟨w.heap.size, 2, none⟩ = some (.string ⟨#[]⟩) := cell_of_row _ w.heap.size 2 _ _ (0, 0) HRES
          have r3 : (w6.setCell ⟨q, 3, none⟩ (.int .i64 1460970)).cell? ⟨w.heap.size, 3, none⟩ = some (.int .i64 0) := cell_of_row _ w.heap.size 3 _ _ (0, 0) HRES
          have rf : ∀ j, (w6.setCell ⟨q, 3, none⟩ (.int .i64 1460970)).frozen? ⟨w.heap.size, j, none⟩ = false := fun j => by have := HRES; simp [World.frozen?, this]
          go_wp2
          refine bodyPost_ret (v := .agg #[.string k, .string t, .string b, .int .i64 1460970]) (by simp [results, Try.results57, go_sem, r0, r1, r2, r3]) rfl ⟨k, t, b, 1460970, rfl, ⟨s1, s2, s3⟩, ?_, ?_⟩
          · exact ((((HD.store (b := w.heap.size) (Nat.le_refl _) (by omega) hWw 0 _).store (b := w.heap.size) (Nat.le_refl _) (by omega) hWw 1 _).store (b := w.heap.size) (Nat.le_refl _) (by omega) hWw 2 _).store (b := w.heap.size) (Nat.le_refl _) (by omega) hWw 3 _).rd'.more (by simp [costF])
          · exact ((((HD.store (b := w.heap.size) (Nat.le_refl _) (by omega) hWw 0 _).store (b := w.heap.size) (Nat.le_refl _) (by omega) hWw 1 _).store (b := w.heap.size) (Nat.le_refl _) (by omega) hWw 2 _).store (b := w.heap.size) (Nat.le_refl _) (by omega) hWw 3 _).gr
def DrawnI (w : World) (e : Ending) (w' : World) : Prop := ∃ (k t b : ByteArray) (d : Int), e = .returned (.agg #[.string k, .string t, .string b, .int .i64 d]) ∧ ShortI ⟨k, t, b, d⟩ ∧ Below w.heap.size w w'
end Go.Proofs.Ytbljpbmpfmnemaa
