/-
  The verifier's own text: BothD.
-/
import Derived.Test.YtbljpbmpfmnemaaRows
import Derived.Test.YtbljpbmpfmnemaaGy
import Derived.Test.YtbljpbmpfmnemaaOwnTwo
import Derived.Deep.DeepCutAuto
import Derived.WalkKit
import Derived.ProofKit
import Derived.Below
import Derived.Lib.Hide
import Derived.Outline
import Derived.BigQuiet
import Derived.Deep.QuietTactic
import Derived.Deep.Draws
import Derived.Laws.OwnMore
import Derived.Laws.Rows
import Derived.WalkSpells
import Derived.Deep.RegionWith
namespace Go.Proofs.Ytbljpbmpfmnemaa
open Go.RowKit
set_option linter.unusedVariables false
/-- two feeds that were drawn -/
def DrewBoth (W : World) (g m : Nat) (e : Ending) (w' : World) : Prop := ∃ (v u : Value) (A B : List It), e = .returned (.tuple #[v, u]) ∧ A.length ≤ 7 ∧ B.length ≤ 9 ∧ ShortF A ∧ ShortF B ∧ RdG encI w' v A ∧ RdG encI w' u B ∧ Rd W w' g m
theorem own_lt {w : World} {B : Nat} {v : Value} {L : List It} (h : OwnF w B v L) : ∀ k, v.ownBlock = some k → k < w.heap.size := fun k hk => (World.ownsRow.lt h k hk).2
/-- a write into another row -/
theorem own_set {w : World} {B q i : Nat} {v u : Value} {L : List It} (h : OwnF w B v L) (hq : ∀ k, v.ownBlock = some k → k ≠ q) : OwnF (w.setCell ⟨q, i, none⟩ u) B v L :=
  OwnG.keep h (only_setCell' w q i u) (fun k e hk => by cases e; exact hq q hk rfl)
theorem rd_set {W w : World} {g m q i : Nat} {u : Value} (h : Rd W w g m) (hq : q ≠ g) (hW : W.heap.size ≤ q) : Rd W (w.setCell ⟨q, i, none⟩ u) g m :=
  h.grown (only_setCell' w q i u) (fun e => by cases e; exact hq rfl) (fun k hk => by cases hk; exact hW)
/-- an append beside another list -/
theorem own_beside {w w' : World} {B N : Nat} {v y : Value} {L M : List It} (h : OwnF w B v L) (hy : OwnF w N y M) (hlt : ∀ k, v.ownBlock = some k → k < N) (hg : w.grownBy w' y.ownBlock) : OwnF w' B v L :=
  OwnG.keep h hg (fun k e hk => by have := hlt k hk; have := OwnG.ge hy k e; omega)
theorem of_nkeys (v : Int) (h0 : 0 ≤ v) (h1 : v < 3) : ∃ s : ByteArray, s.size ≤ 81 ∧ (#[Value.string ⟨#[110, 49]⟩, Value.string ⟨#[110, 50]⟩, Value.string ⟨#[110, 51]⟩] : Array Value)[v.toNat]? = some (.string s) := by
  obtain rfl | rfl | rfl : v = 0 ∨ v = 1 ∨ v = 2 := by omega
  all_goals exact ⟨_, by decide, rfl⟩
theorem set_row {w : World} {q : Nat} {T : TypeId} {a b b' c d : Value} (h : w.heap[q]? = some (.cells #[a, b, c, d] T)) :
    (w.setCell ⟨q, 1, none⟩ b').cell? ⟨q, 0, none⟩ = some a ∧ (w.setCell ⟨q, 1, none⟩ b').cell? ⟨q, 1, none⟩ = some b' ∧ (w.setCell ⟨q, 1, none⟩ b').cell? ⟨q, 2, none⟩ = some c ∧ (w.setCell ⟨q, 1, none⟩ b').cell? ⟨q, 3, none⟩ = some d ∧ (w.setCell ⟨q, 1, none⟩ b').heap.size = w.heap.size := by
  have c0 := cell_of_row w q 0 _ _ (0, 0) h
  have c1 := cell_of_row w q 1 _ _ (0, 0) h
  have c2 := cell_of_row w q 2 _ _ (0, 0) h
  have c3 := cell_of_row w q 3 _ _ (0, 0) h
  refine ⟨?_, ?_, ?_, ?_, by simp⟩ <;> simp [go_sem, c0, c1, c2, c3]
theorem set_row0 {w : World} {q : Nat} {T : TypeId} {a a' b c d : Value} (h : w.heap[q]? = some (.cells #[a, b, c, d] T)) :
    (w.setCell ⟨q, 0, none⟩ a').cell? ⟨q, 0, none⟩ = some a' ∧ (w.setCell ⟨q, 0, none⟩ a').cell? ⟨q, 1, none⟩ = some b ∧ (w.setCell ⟨q, 0, none⟩ a').cell? ⟨q, 2, none⟩ = some c ∧ (w.setCell ⟨q, 0, none⟩ a').cell? ⟨q, 3, none⟩ = some d ∧ (w.setCell ⟨q, 0, none⟩ a').heap.size = w.heap.size := by
  have c0 := cell_of_row w q 0 _ _ (0, 0) h
  have c1 := cell_of_row w q 1 _ _ (0, 0) h
  have c2 := cell_of_row w q 2 _ _ (0, 0) h
  have c3 := cell_of_row w q 3 _ _ (0, 0) h
  refine ⟨?_, ?_, ?_, ?_, by simp⟩ <;> simp [go_sem, c0, c1, c2, c3]
theorem rows_at {w wX : World} {q : Nat} {a b c d : Value} (hq : q < w.heap.size) (hX : Below w.heap.size w wX) (d0 : w.cell? ⟨q, 0, none⟩ = some a) (d1 : w.cell? ⟨q, 1, none⟩ = some b) (d2 : w.cell? ⟨q, 2, none⟩ = some c) (d3 : w.cell? ⟨q, 3, none⟩ = some d) :
    wX.cell? ⟨q, 0, none⟩ = some a ∧ wX.cell? ⟨q, 1, none⟩ = some b ∧ wX.cell? ⟨q, 2, none⟩ = some c ∧ wX.cell? ⟨q, 3, none⟩ = some d := by
  refine ⟨?_, ?_, ?_, ?_⟩
  · rw [hX.cell (p := ⟨q, 0, none⟩) hq]; exact d0
  · rw [hX.cell (p := ⟨q, 1, none⟩) hq]; exact d1
  · rw [hX.cell (p := ⟨q, 2, none⟩) hq]; exact d2
  · rw [hX.cell (p := ⟨q, 3, none⟩) hq]; exact d3
set_option maxRecDepth 100000 in
set_option maxHeartbeats 8000000 in
theorem both_draw (W w : World) (g m : Nat) (n : Int) (h : Rd W w g m) (hm : m ≤ 500000) (hn1 : -1000000 ≤ n) (hn2 : n ≤ 1000000) :
    Calls Try.prog 49 #[.pointer (some ⟨g, 0, none⟩), .int .i64 n] w (DrewBoth W g (m + 130)) := by
  have hlt := h.lt
  have hgW := h.lo
  go_enter Try.func49, Try.ntmps49
  go_wp2_with fail
  refine (feed_draw W _ g m n h (by omega) hn1 hn2).mono ?_
  rintro e w3 ⟨vA, A, rfl, h7, hsA, hown3, hr3⟩
  obtain ⟨N, hN⟩ : ∃ N, w3.heap.size = N := ⟨_, rfl⟩
  have hNg : g < N := by rw [← hN]; exact hr3.lt
  have hAlt := Lib.hid (fun k hk => (show k < N from by rw [← hN]; exact own_lt hown3 k hk))
  have hA4 : Hid (OwnF (w3.alloc (.cells #[] 30)) (g + 1) vA A) := Lib.hid (OwnG.grown hown3 ((Below.refl _ _).alloc (Nat.le_refl _) _))
  have hB4 : Hid (OwnF (w3.alloc (.cells #[] 30)) N (.slice (some ⟨w3.heap.size, 0, none⟩) 0 0) []) := Lib.hid (own_none w3 N (by omega))
  have hr4 : Hid (Rd W (w3.alloc (.cells #[] 30)) g (m + 87)) := Lib.hid (hr3.alloc _)
  have hN4 : Hid (N ≤ (w3.alloc (.cells #[] 30)).heap.size) := Lib.hid (by simp; omega)
  obtain ⟨AA, cA, hvA⟩ := OwnF.shape hown3
  subst hvA
  have hsA := Lib.hid hsA
  clear hown3 hr3 hN
  go_wp2
  go_loopw [7, 8] (fun x i wr => ∃ (i0 : Int) (j : Nat) (B : List It) (y : Value), -1 ≤ i0 ∧ i0 < A.length ∧ i = .int .i64 i0 ∧ y = x ∧ B.length ≤ j ∧ (j : Int) + i0 + 1 ≤ 7 ∧ Hid (ShortF B) ∧ Hid (OwnF wr (g + 1) (.slice AA A.length cA) A) ∧ Hid (OwnF wr N y B) ∧ Hid (Rd W wr g (m + 87 + 2 * j)) ∧ Hid (N ≤ wr.heap.size)) (fun _ i _ => (intOf i + 1).toNat)
  case atStart => exact ⟨(A.length : Int) - 1, 0, [], _, by omega, by omega, rfl, rfl, by simp, by omega, Lib.hid (by intro x m; simp at m), hA4, hB4, hr4, hN4⟩
  case round =>
    obtain ⟨i0, j, B, y, hi1, hi2, rfl, rfl, hBj, hj, hsB, hA, hB, hr, hNr⟩ := hrel
    by_cases h0 : 0 ≤ i0
    · obtain ⟨k, rfl⟩ : ∃ k : Nat, i0 = k := ⟨i0.toNat, by omega⟩
      have hlt : k < A.length := by omega
      have t0 : decide ((0 : Int) ≤ (k : Int)) = true := decide_eq_true h0
      obtain ⟨b, o, c, hv, _, _, hb, h4⟩ := (OwnG.rd hA.out).some (by intro e; rw [e] at hlt; simp at hlt)
      obtain ⟨rfl, rfl⟩ : AA = some ⟨b, o, none⟩ ∧ cA = c := by simpa using hv
      obtain ⟨c0, c1, c2, c3⟩ := rdI_cells h4 hlt
      have hsi := hsA.out _ (List.getElem_mem hlt)
      obtain ⟨e, he⟩ : ∃ e, A[k] = e := ⟨_, rfl⟩
      rw [he] at c0 c1 c2 c3 hsi
      obtain ⟨ky, ti, bo, da⟩ := e
      simp only at c0 c1 c2 c3
      clear hv h4 he hi1 hi2
      obtain ⟨w4, hw4⟩ : ∃ w4, wr.alloc (.cells #[.string ky, .string ti, .string bo, .int .i64 da] 30) = w4 := ⟨_, rfl⟩
      have hb4 : Below wr.heap.size wr w4 := by rw [← hw4]; exact (Below.refl _ _).alloc (Nat.le_refl _) _
      have hA4 := Lib.hid (OwnG.grown hA.out hb4)
      have hB4 := Lib.hid (OwnG.grown hB.out hb4)
      have hr4 := rd_below hr.out hb4
      obtain ⟨d0, d1, d2, d3⟩ := row4 hw4 (Below.refl _ _)
      obtain ⟨q, hq⟩ : ∃ q, wr.heap.size = q := ⟨_, rfl⟩
      have hfr4 : w4.heap[q]? = some (.cells #[.string ky, .string ti, .string bo, .int .i64 da] 30) := by rw [← hw4, ← hq]; exact heap_alloc_new wr _
      have hfr4 := Lib.hid hfr4
      have hq4 : q < w4.heap.size := by rw [← hw4, ← hq]; simp
      have hAq := Lib.hid (fun k hk => (show k ≠ q from by have := own_lt hA.out k hk; omega))
      have hBq := Lib.hid (fun k hk => (show k ≠ q from by have := own_lt hB.out k hk; omega))
      have hgq : q ≠ g := by have := hr.out.lt; omega
      have hWq : W.heap.size ≤ q := by have := hr.out.bel.size; omega
      have hNq : N ≤ q := by have := hNr.out; omega
      clear hb4 hr hNr hA hB
      go_wp2_with fail
      have hw4 := Lib.hid hw4
      rw [hq] at d0 d1 d2 d3
      clear hq c0 c1 c2 c3
      refine (pick_any W _ g _ 4 hr4 (by omega)).mono ?_
      rintro e w5 ⟨v5, a5, b5, _, rfl, hr5, hg5⟩
      have hA5 := Lib.hid (OwnG.row hA4.out hg5 (fun k e => by cases e; omega))
      have hB5 := Lib.hid (OwnG.row hB4.out hg5 (fun k e => by cases e; omega))
      have e0 := (kept_cell hg5 q 0 hgq hq4).trans d0
      have e1 := (kept_cell hg5 q 1 hgq hq4).trans d1
      have e2 := (kept_cell hg5 q 2 hgq hq4).trans d2
      have e3 := (kept_cell hg5 q 3 hgq hq4).trans d3
      have hfr5 : w5.heap[q]? = some (.cells #[.string ky, .string ti, .string bo, .int .i64 da] 30) := (hg5.block q hq4 (by intro h; injection h with h; exact hgq h)).trans hfr4.out
      have hfz5 : ∀ j, w5.frozen? ⟨q, j, none⟩ = false := fun j => by simp [World.frozen?, hfr5]
      have hq5 : q < w5.heap.size := Nat.lt_of_lt_of_le hq4 hg5.size
      clear hg5 d0 d1 d2 d3 hA4 hB4 hr4 hw4
      by_cases hv5 : v5 = 0
      · subst hv5
        have hA6 := Lib.hid (own_set (i := 1) (u := .string ⟨#[111, 116, 104, 101, 114]⟩) hA5.out hAq.out)
        have hB6 := Lib.hid (own_set (i := 1) (u := .string ⟨#[111, 116, 104, 101, 114]⟩) hB5.out hBq.out)
        have hr6 := Lib.hid (rd_set (i := 1) (u := .string ⟨#[111, 116, 104, 101, 114]⟩) hr5 hgq hWq)
        have hsi' : ShortI ⟨ky, ⟨#[111, 116, 104, 101, 114]⟩, bo, da⟩ := ⟨hsi.1, by show (⟨#[111, 116, 104, 101, 114]⟩ : ByteArray).size ≤ 81; decide, hsi.2.2⟩
        obtain ⟨w6, hw6⟩ : ∃ w6, w5.setCell ⟨q, 1, none⟩ (.string ⟨#[111, 116, 104, 101, 114]⟩) = w6 := ⟨_, rfl⟩
        have hd := set_row (w := w5) (q := q) (T := 30) (a := .string ky) (b := .string ti) (b' := .string ⟨#[111, 116, 104, 101, 114]⟩) (c := .string bo) (d := .int .i64 da) hfr5
        rw [hw6] at hd
        obtain ⟨d0, d1, d2, d3, hs6⟩ := hd
        have hq6 : q < w6.heap.size := by rw [hs6]; exact hq5
        rw [hw6] at hA6 hB6 hr6
        clear hA5 hB5 hr5
        go_wp2_with fail
        refine (pick_any W _ g _ 4 hr6.out (by omega)).mono ?_
        rintro e w7 ⟨v7, a7, b7, _, rfl, hr7, hg7⟩
        have hA7 := Lib.hid (OwnG.row hA6.out hg7 (fun k e => by cases e; omega))
        have hB7 := Lib.hid (OwnG.row hB6.out hg7 (fun k e => by cases e; omega))
        have f0 := (kept_cell hg7 q 0 hgq hq6).trans d0
        have f1 := (kept_cell hg7 q 1 hgq hq6).trans d1
        have f2 := (kept_cell hg7 q 2 hgq hq6).trans d2
        have f3 := (kept_cell hg7 q 3 hgq hq6).trans d3
        have hN7 : Hid (N ≤ w7.heap.size) := Lib.hid (Nat.le_trans hNq (Nat.le_of_lt (Nat.lt_of_lt_of_le hq6 hg7.size)))
        have hr7 := Lib.hid (hr7.more (m' := m + 87 + 2 * (j + 1)) (by omega))
        clear hg7 d0 d1 d2 d3 hA6 hB6 hr6 hq6
        by_cases hv7 : 0 < v7
        · have t7 : decide (0 < v7) = true := decide_eq_true hv7
          have hll : B.length ≤ 1073741824 := by omega
          have hN7' := hN7.out
          go_wp2_with (at_builtin; refine app_item rfl (.tmp 34) (.tmp 36) rfl N _ B ky ⟨#[111, 116, 104, 101, 114]⟩ bo da rfl hB7.out hN7' _ rfl rfl hll ?_; intro v8 w8 hB8 hg8; have hA8 := Lib.hid (own_beside hA7.out hB7.out hAlt.out hg8); have hr8 := Lib.hid (rd_appG hr7.out (OwnG.base hB7.out (by omega)) hg8); have hN8 := Lib.hid (Nat.le_trans hN7.out hg8.size); have hB8 := Lib.hid hB8; clear hg8)
          go_roundw
          case rel => exact ⟨(k : Int) - 1, j + 1, _, _, by omega, by omega, by go_num, rfl, by rw [List.length_append]; show B.length + 1 ≤ j + 1; omega, by omega, Lib.hid (shortF_snoc hsB.out hsi'), hA8, hB8, hr8, hN8⟩
          case measure => simp [intOf] <;> omega
        · have t7 : decide (0 < v7) = false := decide_eq_false hv7
          go_wp2
          go_roundw
          case rel => exact ⟨(k : Int) - 1, j + 1, B, _, by omega, by omega, by go_num, rfl, by omega, by omega, hsB, hA7, hB7, hr7, hN7⟩
          case measure => simp [intOf] <;> omega
      · have t5 : (v5 == 0) = false := by rw [beq_eq_false_iff_ne]; exact hv5
        have hA6 := hA5
        have hB6 := hB5
        have hr6 := Lib.hid hr5
        have hq6 := hq5
        have hsi' := hsi
        clear hA5 hB5 hr5
        go_wp2_with fail
        refine (pick_any W _ g _ 4 hr6.out (by omega)).mono ?_
        rintro e w7 ⟨v7, a7, b7, _, rfl, hr7, hg7⟩
        have hA7 := Lib.hid (OwnG.row hA6.out hg7 (fun k e => by cases e; omega))
        have hB7 := Lib.hid (OwnG.row hB6.out hg7 (fun k e => by cases e; omega))
        have f0 := (kept_cell hg7 q 0 hgq hq6).trans e0
        have f1 := (kept_cell hg7 q 1 hgq hq6).trans e1
        have f2 := (kept_cell hg7 q 2 hgq hq6).trans e2
        have f3 := (kept_cell hg7 q 3 hgq hq6).trans e3
        have hN7 : Hid (N ≤ w7.heap.size) := Lib.hid (Nat.le_trans hNq (Nat.le_of_lt (Nat.lt_of_lt_of_le hq6 hg7.size)))
        have hr7 := Lib.hid (hr7.more (m' := m + 87 + 2 * (j + 1)) (by omega))
        clear hg7 e0 e1 e2 e3 hA6 hB6 hr6 hq6
        by_cases hv7 : 0 < v7
        · have t7 : decide (0 < v7) = true := decide_eq_true hv7
          have hll : B.length ≤ 1073741824 := by omega
          have hN7' := hN7.out
          go_wp2_with (at_builtin; refine app_item rfl (.tmp 34) (.tmp 36) rfl N _ B ky ti bo da rfl hB7.out hN7' _ rfl rfl hll ?_; intro v8 w8 hB8 hg8; have hA8 := Lib.hid (own_beside hA7.out hB7.out hAlt.out hg8); have hr8 := Lib.hid (rd_appG hr7.out (OwnG.base hB7.out (by omega)) hg8); have hN8 := Lib.hid (Nat.le_trans hN7.out hg8.size); have hB8 := Lib.hid hB8; clear hg8)
          go_roundw
          case rel => exact ⟨(k : Int) - 1, j + 1, _, _, by omega, by omega, by go_num, rfl, by rw [List.length_append]; show B.length + 1 ≤ j + 1; omega, by omega, Lib.hid (shortF_snoc hsB.out hsi'), hA8, hB8, hr8, hN8⟩
          case measure => simp [intOf] <;> omega
        · have t7 : decide (0 < v7) = false := decide_eq_false hv7
          go_wp2
          go_roundw
          case rel => exact ⟨(k : Int) - 1, j + 1, B, _, by omega, by omega, by go_num, rfl, by omega, by omega, hsB, hA7, hB7, hr7, hN7⟩
          case measure => simp [intOf] <;> omega
    · have t0 : decide ((0 : Int) ≤ i0) = false := decide_eq_false h0
      have hr' := hr.out.more (m' := m + 101) (by omega)
      have hB9 : B.length ≤ 7 := by omega
      go_wp2_with fail
      refine (pick_any W _ g (m + 101) 3 hr' (by omega)).mono ?_
      rintro e w3 ⟨v3, a3, b3, _, rfl, hr3, hg3⟩
      have b3 := b3 (by omega)
      have hA3 := Lib.hid (OwnG.row hA.out hg3 (fun k e => by cases e; omega))
      have hB3 := Lib.hid (OwnG.row hB.out hg3 (fun k e => by cases e; omega))
      have hN3 := Lib.hid (Nat.le_trans hNr.out hg3.size)
      obtain ⟨j3, rfl⟩ : ∃ j3 : Nat, v3 = j3 := ⟨v3.toNat, by omega⟩
      have hj3 : j3 ≤ 2 := by omega
      have hr3 := Lib.hid (hr3.more (m' := m + 102 + 13 * (2 - j3)) (by omega))
      clear hg3 hr' hr hA hB hNr a3 b3
      go_wp2
      go_loopw [7, 10] (fun x i wr => ∃ (k : Nat) (B : List It) (y : Value), k ≤ 2 ∧ i = .int .i64 k ∧ y = x ∧ B.length + k ≤ 9 ∧ Hid (ShortF B) ∧ Hid (OwnF wr (g + 1) (.slice AA A.length cA) A) ∧ Hid (OwnF wr N y B) ∧ Hid (Rd W wr g (m + 102 + 13 * (2 - k))) ∧ Hid (N ≤ wr.heap.size)) (fun _ i _ => (intOf i).toNat)
      case atStart => exact ⟨j3, B, _, hj3, rfl, rfl, by omega, hsB, hA3, hB3, hr3, hN3⟩
      case round =>
        obtain ⟨k, B, y, hk, rfl, rfl, hBk, hsB, hA, hB, hr, hNr⟩ := hrel
        by_cases h0 : k = 0
        · subst h0
          go_wp2
          go_ret2
          exact ⟨_, _, A, B, rfl, h7, by omega, hsA.out, hsB.out, OwnG.rd hA.out, OwnG.rd hB.out, hr.out.more (by omega)⟩
        · have hpos : 0 < k := by omega
          have hr' := hr.out
          go_wp2_with fail
          refine (item_draw W _ g _ 0 hr' (by omega) (by omega) (by omega)).mono ?_
          rintro e w3 ⟨k0, ti, bo, da, rfl, hsi, hr3, hg3⟩
          have hA3 := Lib.hid (OwnG.row hA.out hg3 (fun k e => by cases e; omega))
          have hB3 := Lib.hid (OwnG.row hB.out hg3 (fun k e => by cases e; omega))
          have hN3 : N ≤ w3.heap.size := Nat.le_trans hNr.out hg3.size
          clear hg3 hr' hr hA hB hNr
          obtain ⟨w4, hw4⟩ : ∃ w4, w3.alloc (.cells #[.string k0, .string ti, .string bo, .int .i64 da] 30) = w4 := ⟨_, rfl⟩
          have hb4 : Below w3.heap.size w3 w4 := by rw [← hw4]; exact (Below.refl _ _).alloc (Nat.le_refl _) _
          have hA4 := OwnG.grown hA3.out hb4
          have hB4 := OwnG.grown hB3.out hb4
          have hr4 := rd_below hr3 hb4
          obtain ⟨q, hq⟩ : ∃ q, w3.heap.size = q := ⟨_, rfl⟩
          have hfr4 : w4.heap[q]? = some (.cells #[.string k0, .string ti, .string bo, .int .i64 da] 30) := by rw [← hw4, ← hq]; exact heap_alloc_new w3 _
          have hq4 : q < w4.heap.size := by rw [← hw4, ← hq]; simp
          have hAq := Lib.hid (fun k hk => (show k ≠ q from by have := own_lt hA3.out k hk; omega))
          have hBq := Lib.hid (fun k hk => (show k ≠ q from by have := own_lt hB3.out k hk; omega))
          have hgq : q ≠ g := by have := hr3.lt; omega
          have hWq : W.heap.size ≤ q := by have := hr3.bel.size; omega
          have hNq : N ≤ q := by omega
          have hA4 := Lib.hid hA4
          have hB4 := Lib.hid hB4
          have hfr4 := Lib.hid hfr4
          clear hb4 hr3 hN3 hA3 hB3
          go_wp2_with fail
          have hw4 := Lib.hid hw4
          clear hq
          refine (pick_any W _ g _ 3 (hr4.alloc _) (by omega)).mono ?_
          rintro e w6 ⟨v6, a6, b6, _, rfl, hr6, hg6⟩
          have b6 := b6 (by omega)
          have hlt4 := hr4.lt
          obtain ⟨ky, hky, hel⟩ := of_nkeys v6 a6 b6
          have hbA : Below w4.heap.size w4 (w4.alloc (.cells #[.string ⟨#[110, 49]⟩, .string ⟨#[110, 50]⟩, .string ⟨#[110, 51]⟩] 9)) := (Below.refl _ _).alloc (Nat.le_refl _) _
          have hA6 := OwnG.row (OwnG.grown hA4.out hbA) hg6 (fun k e => by cases e; omega)
          have hB6 := OwnG.row (OwnG.grown hB4.out hbA) hg6 (fun k e => by cases e; omega)
          have k1 := kept_cell hg6 w4.heap.size v6.toNat (by omega) (by simp)
          rw [World.cell?_alloc_new, hel] at k1
          have hfr6 : w6.heap[q]? = some (.cells #[.string k0, .string ti, .string bo, .int .i64 da] 30) := (hg6.block q (by simp; omega) (by intro h; injection h with h; exact hgq h)).trans ((hbA.block q hq4).trans hfr4.out)
          have hfz6 : ∀ j, w6.frozen? ⟨q, j, none⟩ = false := fun j => by simp [World.frozen?, hfr6]
          have hq6 : q < w6.heap.size := Nat.lt_of_lt_of_le hq4 (Nat.le_trans hbA.size hg6.size)
          have c0 := cell_of_row w6 q 0 _ _ (0, 0) hfr6
          have hd := set_row0 (w := w6) (q := q) (T := 30) (a := .string k0) (a' := .string ky) (b := .string ti) (c := .string bo) (d := .int .i64 da) hfr6
          have hA8 := Lib.hid (own_set (i := 0) (u := .string ky) hA6 hAq.out)
          have hB8 := Lib.hid (own_set (i := 0) (u := .string ky) hB6 hBq.out)
          have hr8 := Lib.hid (rd_set (i := 0) (u := .string ky) hr6 hgq hWq)
          clear hA6 hB6 hfr6 hA4 hB4 hfr4 hg6 hr4 hel hbA
          obtain ⟨w8, hw8⟩ : ∃ w8, w6.setCell ⟨q, 0, none⟩ (.string ky) = w8 := ⟨_, rfl⟩
          rw [hw8] at hd hA8 hB8 hr8
          obtain ⟨d0, d1, d2, d3, hs8⟩ := hd
          have hq8 : q < w8.heap.size := by rw [hs8]; exact hq6
          clear hs8 hr6
          have hsi' : ShortI ⟨ky, ti, bo, da⟩ := ⟨hky, hsi.2⟩
          have hrw := Lib.hid (fun wX (hX : Below w8.heap.size w8 wX) => rows_at hq8 hX d0 d1 d2 d3)
          have hrd8 := Lib.hid (OwnG.rd hB8.out)
          have hne8 : ¬ (q = w8.heap.size) := by omega
          have hss := Lib.hid (shortF_snoc hsB.out hsi')
          have hfs := Lib.hid (fit_shortF hss.out)
          have hll : ([] : List It).length + B.length ≤ 1073741824 := by simp; omega
          have hll2 : B.length + [(⟨ky, ti, bo, da⟩ : It)].length ≤ 1073741824 := by simp; omega
          have hN8 : N ≤ w8.heap.size := by omega
          obtain ⟨Ay, cy, hy⟩ := OwnF.shape hB8.out
          subst hy
          go_upto_region 16 with fail
          have hw8 := Lib.hid hw8
          go_cut [58] (fun s58 wx => s58 = .bool (fdB (B ++ [⟨ky, ti, bo, da⟩])) ∧ Hid (Below w8.heap.size w8 wx))
          case first =>
            clear k1 c0
            go_region_law (first
              | (refine step_item rfl (.tmp 52) (.tmp 53) rfl w8.heap.size _ _ [] B rfl (by first | exact own_a w8 _ (Nat.le_refl _) | exact own_b w8 _ (Nat.le_refl _) _ | exact own_c w8 _ (Nat.le_refl _) _) (by simp <;> omega) rfl (by first | exact hrd8.out.below (bel_1 w8 _) | exact hrd8.out.below (bel_2 w8 _ _)) hll ?_; intro v9 w9 hown9 hg9; rw [List.nil_append] at hown9; (first | (have hg9 : World.grownBy _ w9 (some w8.heap.size) := hg9) | (have hg9 : World.grownBy _ w9 (some (w8.heap.size + 1)) := hg9)); have hB9 : Hid (Below w8.heap.size w8 w9) := Lib.hid (by first | exact (bel_1 w8 _).grown hg9 (by simp) (fun q hq => by cases hq; omega) | exact (bel_2 w8 _ _).grown hg9 (by simp <;> omega) (fun q hq => by cases hq; omega)); obtain ⟨e0, e1, e2, e3⟩ := hrw.out w9 hB9.out; (first | (have hL9 := rd_kept (lit_b w8 _ ky ti bo da) hg9 (by omega)) | (have hL9 := rd_kept (lit_c w8 _ ky ti bo da) hg9 (by omega)) | skip); clear hg9; have hown9 := Lib.hid hown9)
              | (refine step_item rfl (.tmp 54) (.tmp 56) rfl w8.heap.size _ _ B [⟨ky, ti, bo, da⟩] rfl (by first | exact hown9.out | exact OwnG.grown hown9.out ((Below.refl _ _).alloc (Nat.le_refl _) _)) (by first | exact hB9.out.size | exact Nat.le_trans hB9.out.size (by simp)) rfl (by first | exact hL9 | exact rd_lit1 w9 ⟨ky, ti, bo, da⟩ _) hll2 ?_; intro v10 w10 hown10 hg10; have hB10 : Hid (Below w8.heap.size w8 w10) := Lib.hid (by first | exact own_below hown9.out hB9.out hg10 | exact own_below (OwnG.grown hown9.out ((Below.refl _ _).alloc (Nat.le_refl _) _)) (hB9.out.alloc hB9.out.size _) hg10); clear hg10; have hown10 := Lib.hid hown10)
              | (go_simp; go_at_call 43; refine (fdS_valid _ _ _ (OwnG.rd hown10.out) hfs.out).mono ?_; rintro e w11 ⟨rfl, hb11⟩; have hB11 := Lib.hid (below_trans' hB10.out hb11); clear hb11; dsimp only))
            all_goals (go_wp2_with fail; go_meet; exact ⟨rfl, hB11⟩)
          case rest =>
            obtain ⟨hs58, hB9⟩ := hcut
            have hA9 := Lib.hid (OwnG.grown hA8.out hB9.out)
            have hown9 := Lib.hid (OwnG.grown hB8.out hB9.out)
            have hr9 := Lib.hid (rd_below hr8.out hB9.out)
            have hN9 := Lib.hid (Nat.le_trans hN8 hB9.out.size)
            clear d0 d1 d2 d3 k1 c0
            obtain ⟨d0, d1, d2, d3⟩ := hrw.out wc hB9.out
            rcases hF : fdB (B ++ [⟨ky, ti, bo, da⟩]) with _ | _ <;> rw [hF] at hs58 <;> subst hs58
            · go_wp2
              go_roundw
              case rel => exact ⟨k - 1, B, _, by omega, by go_num, rfl, by omega, hsB, hA9, hown9, Lib.hid (hr9.out.more (by omega)), hN9⟩
              case measure => simp [intOf] <;> omega
            · have hl : B.length ≤ 1073741824 := by omega
              have hN9' := hN9.out
              go_wp2_with (at_builtin; refine app_item rfl (.tmp 59) (.tmp 61) rfl N _ B ky ti bo da rfl hown9.out hN9' _ rfl rfl hl ?_; intro v10 w10 hown10 hg10; have hA10 := Lib.hid (own_beside hA9.out hown9.out hAlt.out hg10); have hr10 := Lib.hid (rd_appG hr9.out (OwnG.base hown9.out (by omega)) hg10); have hN10 := Lib.hid (Nat.le_trans hN9.out hg10.size); have hown10 := Lib.hid hown10; clear hg10)
              go_roundw
              case rel => exact ⟨k - 1, _, _, by omega, by go_num, rfl, by rw [List.length_append]; show B.length + 1 + (k - 1) ≤ 9; omega, hss, hA10, hown10, Lib.hid (hr10.out.more (by omega)), hN10⟩
              case measure => simp [intOf] <;> omega
end Go.Proofs.Ytbljpbmpfmnemaa
