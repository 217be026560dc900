/-
  The verifier's own text: ShortB HandMath RowN THn HandI HandS HandR HandB.
-/
import Derived.Test.YtolkgamfoopnjaaRows
import Derived.Test.YtolkgamfoopnjaaGa
import Derived.Test.YtolkgamfoopnjaaGn
import Derived.Test.YtolkgamfoopnjaaGb
import Derived.Lib.SmallJoins
import Derived.Test.YtolkgamfoopnjaaGo
import Derived.Test.YtolkgamfoopnjaaGc
import Derived.Test.YtolkgamfoopnjaaGi
import Derived.WalkKit
import Derived.ProofKit
import Derived.Below
import Derived.Lib.Hide
import Derived.Outline
import Derived.BigQuiet
import Derived.Deep.QuietTactic
import Derived.Deep.Draws
import Derived.Laws.OwnMore
import Derived.Laws.Rows
import Derived.WalkSpells
import Derived.Deep.RegionWith
namespace Go.Proofs.Ytolkgamfoopnjaa
open Go.RowKit
set_option linter.unusedVariables false
/-- a text and a number as the draws make them -/
def ShS (s : ByteArray) : Prop := s.size ≤ 100
def ShI (z : Int) : Prop := -1000000 ≤ z ∧ z ≤ 1000000
/-- a handle -/
structure Hn where
  name : ByteArray
  host : ByteArray
def Hn.zero : Hn := ⟨⟨#[]⟩, ⟨#[]⟩⟩
instance hnDec : DecidableEq Hn := fun a b => if h : a.name = b.name ∧ a.host = b.host then isTrue (by obtain ⟨a0, a1⟩ := a; obtain ⟨b0, b1⟩ := b; obtain ⟨h0, h1⟩ := h; simp only at h0 h1; subst h0; subst h1; rfl) else isFalse (by rintro rfl; exact h ⟨rfl, rfl⟩)
def hnB (h : Hn) : Bool := wordB h.name.data.toList && wordB h.host.data.toList
theorem hnB_of {h : Hn} (e : hnB h = true) : wordB h.name.data.toList = true ∧ wordB h.host.data.toList = true := by simpa [hnB] using e
theorem hnB_name {h : Hn} (e : wordB h.name.data.toList = false) : hnB h = false := by simp [hnB, e]
theorem hnB_host {h : Hn} (e : wordB h.host.data.toList = false) : hnB h = false := by simp [hnB, e]
theorem hnB_mk {h : Hn} (a : wordB h.name.data.toList = true) (b : wordB h.host.data.toList = true) : hnB h = true := by simp [hnB, a, b]
theorem hnB_zero : hnB Hn.zero = false := by decide
/-- its text -/
def hnT1 (h : Hn) : List UInt8 := 64 :: (h.name.data.toList ++ 64 :: h.host.data.toList)
def hnT (h : Hn) : List UInt8 := if hnB h then hnT1 h else []
theorem hnT_in {h : Hn} (e : hnB h = true) : hnT h = hnT1 h := by simp [hnT, e]
theorem hnT_out {h : Hn} (e : hnB h = false) : hnT h = [] := by simp [hnT, e]
theorem hnT_len (h : Hn) : (hnT h).length ≤ 18 := by
  unfold hnT; split
  · rename_i e
    have := word_len (hnB_of e).1
    have := word_len (hnB_of e).2
    simp only [hnT1, List.length_cons, List.length_append]; omega
  · simp
theorem word_no64 {l : List UInt8} (h : wordB l = true) : (64 : UInt8) ∉ l := by
  unfold wordB at h
  simp only [Bool.and_eq_true, List.all_eq_true] at h
  intro m
  have := h.2 _ m
  revert this; decide
theorem hn_inj {h h' : Hn} (a : hnB h = true) (b : hnB h' = true) (e : hnT1 h = hnT1 h') : h = h' := by
  unfold hnT1 at e
  have e := List.tail_eq_of_cons_eq e
  obtain ⟨e1, e2⟩ := cut_eq (word_no64 (hnB_of a).1) (word_no64 (hnB_of b).1) e
  obtain ⟨n, o⟩ := h
  obtain ⟨n', o'⟩ := h'
  simp only at e1 e2
  have : n = n' := by apply ByteArray.ext; exact Array.toList_inj.1 e1
  subst this
  have : o = o' := by apply ByteArray.ext; exact Array.toList_inj.1 e2
  subst this
  rfl
open Classical in
/-- the handle that a text stands for -/
noncomputable def hnR (s : List UInt8) : Hn × Bool := if h : ∃ x, hnB x = true ∧ hnT1 x = s then (Classical.choose h, true) else (Hn.zero, false)
theorem hnR_of {s : List UInt8} {x : Hn} (a : hnB x = true) (e : hnT1 x = s) : hnR s = (x, true) := by
  have h : ∃ x, hnB x = true ∧ hnT1 x = s := ⟨x, a, e⟩
  unfold hnR
  rw [dif_pos h]
  obtain ⟨c, d⟩ := Classical.choose_spec h
  rw [hn_inj c a (d.trans e.symm)]
theorem hnR_no {s : List UInt8} (e : ∀ x, hnB x = true → hnT1 x ≠ s) : hnR s = (Hn.zero, false) := by
  unfold hnR
  rw [dif_neg (by rintro ⟨x, a, b⟩; exact e x a b)]
theorem hnR_text {x : Hn} (a : hnB x = true) : hnR (hnT x) = (x, true) := by rw [hnT_in a]; exact hnR_of a rfl
theorem hnR_got {s : List UInt8} {x : Hn} (h : hnR s = (x, true)) : hnB x = true ∧ hnT x = s := by
  unfold hnR at h
  split at h
  · rename_i q
    obtain ⟨c, d⟩ := Classical.choose_spec q
    have : Classical.choose q = x := by injection h
    rw [this] at c d
    exact ⟨c, by rw [hnT_in c]; exact d⟩
  · simp at h
theorem hnR_false {s : List UInt8} {x : Hn} (h : hnR s = (x, false)) : x = Hn.zero := by
  unfold hnR at h
  split at h
  · simp at h
  · injection h with a b; exact a.symm
/-- with an @ behind it nothing is a handle's text -/
theorem hnR_more {s : List UInt8} {x : Hn} (h : hnR s = (x, true)) : hnR (s ++ [64]) = (Hn.zero, false) := by
  obtain ⟨a, e⟩ := hnR_got h
  refine hnR_no (fun y b q => ?_)
  rw [hnT_in a] at e
  subst e
  unfold hnT1 at q
  have q : y.name.data.toList ++ 64 :: y.host.data.toList = x.name.data.toList ++ 64 :: (x.host.data.toList ++ [64]) := by simpa using q
  obtain ⟨_, q2⟩ := cut_eq (word_no64 (hnB_of b).1) (word_no64 (hnB_of a).1) q
  have := word_no64 (hnB_of b).2
  rw [q2] at this
  exact this (by simp)
/-- the first @ behind the first byte -/
theorem hn_at {s : List UInt8} {k : Nat} (h1 : 1 ≤ k) (hk : k < s.length) (p : ∀ i (hi : i < s.length), 1 ≤ i → i < k → s[i] ≠ 64) (e : s[k] = 64) {x : Hn} (b : hnB x = true) (q : hnT1 x = s) :
    x.name.data.toList = (s.drop 1).take (k - 1) ∧ x.host.data.toList = s.drop (k + 1) := by
  subst q
  have hl : (hnT1 x)[x.name.data.toList.length + 1]'(by simp [hnT1]) = 64 := by simp [hnT1]
  have hk2 : k = x.name.data.toList.length + 1 := by
    rcases Nat.lt_trichotomy k (x.name.data.toList.length + 1) with h | h | h
    · exfalso
      have hm : (hnT1 x)[k] ∈ x.name.data.toList := by
        obtain ⟨j, rfl⟩ : ∃ j, k = j + 1 := ⟨k - 1, by omega⟩
        have : (hnT1 x)[j + 1] = x.name.data.toList[j]'(by omega) := by
          simp only [hnT1, List.getElem_cons_succ]
          rw [List.getElem_append_left]
        rw [this]; exact List.getElem_mem _
      rw [e] at hm
      exact word_no64 (hnB_of b).1 hm
    · exact h
    · exact absurd hl (p _ _ (by omega) h)
  subst hk2
  constructor
  · simp [hnT1]
  · show _ = (x.name.data.toList ++ 64 :: x.host.data.toList).drop (x.name.data.toList.length + 1)
    rw [List.drop_length_add_append]; rfl
theorem hn_none {s : List UInt8} (p : ∀ i (hi : i < s.length), 1 ≤ i → s[i] ≠ 64) : ∀ x, hnB x = true → hnT1 x ≠ s := by
  rintro x b rfl
  exact p (x.name.data.toList.length + 1) (by simp [hnT1]) (by omega) (by simp [hnT1])
/-- the order of handles -/
def hnL (a b : Hn) : Bool := Op.bytesLess a.host.data.toList b.host.data.toList || (decide (a.host = b.host) && Op.bytesLess a.name.data.toList b.name.data.toList)
/-! a variable of n cells, as it was made, behind whatever kept it -/
theorem row2 {w w1 wX : World} {a0 a1 : Value} {T : TypeId} (hw : w.alloc (.cells #[a0, a1] T) = w1) (hB : Below w1.heap.size w1 wX) :
    wX.cell? ⟨w.heap.size, 0, none⟩ = some a0 ∧ wX.cell? ⟨w.heap.size, 1, none⟩ = some a1 := by
  subst hw
  have hX := (hB.block w.heap.size (by simp)).trans (heap_alloc_new w (.cells #[a0, a1] T))
  exact ⟨cell_of_row _ w.heap.size 0 _ _ (0, 0) hX, cell_of_row _ w.heap.size 1 _ _ (0, 0) hX⟩
theorem row3 {w w1 wX : World} {a0 a1 a2 : Value} {T : TypeId} (hw : w.alloc (.cells #[a0, a1, a2] T) = w1) (hB : Below w1.heap.size w1 wX) :
    wX.cell? ⟨w.heap.size, 0, none⟩ = some a0 ∧ wX.cell? ⟨w.heap.size, 1, none⟩ = some a1 ∧ wX.cell? ⟨w.heap.size, 2, none⟩ = some a2 := by
  subst hw
  have hX := (hB.block w.heap.size (by simp)).trans (heap_alloc_new w (.cells #[a0, a1, a2] T))
  exact ⟨cell_of_row _ w.heap.size 0 _ _ (0, 0) hX, cell_of_row _ w.heap.size 1 _ _ (0, 0) hX, cell_of_row _ w.heap.size 2 _ _ (0, 0) hX⟩
theorem row5 {w w1 wX : World} {a0 a1 a2 a3 a4 : Value} {T : TypeId} (hw : w.alloc (.cells #[a0, a1, a2, a3, a4] T) = w1) (hB : Below w1.heap.size w1 wX) :
    wX.cell? ⟨w.heap.size, 0, none⟩ = some a0 ∧ wX.cell? ⟨w.heap.size, 1, none⟩ = some a1 ∧ wX.cell? ⟨w.heap.size, 2, none⟩ = some a2 ∧ wX.cell? ⟨w.heap.size, 3, none⟩ = some a3 ∧ wX.cell? ⟨w.heap.size, 4, none⟩ = some a4 := by
  subst hw
  have hX := (hB.block w.heap.size (by simp)).trans (heap_alloc_new w (.cells #[a0, a1, a2, a3, a4] T))
  exact ⟨cell_of_row _ w.heap.size 0 _ _ (0, 0) hX, cell_of_row _ w.heap.size 1 _ _ (0, 0) hX, cell_of_row _ w.heap.size 2 _ _ (0, 0) hX, cell_of_row _ w.heap.size 3 _ _ (0, 0) hX, cell_of_row _ w.heap.size 4 _ _ (0, 0) hX⟩
theorem row6 {w w1 wX : World} {a0 a1 a2 a3 a4 a5 : Value} {T : TypeId} (hw : w.alloc (.cells #[a0, a1, a2, a3, a4, a5] T) = w1) (hB : Below w1.heap.size w1 wX) :
    wX.cell? ⟨w.heap.size, 0, none⟩ = some a0 ∧ wX.cell? ⟨w.heap.size, 1, none⟩ = some a1 ∧ wX.cell? ⟨w.heap.size, 2, none⟩ = some a2 ∧ wX.cell? ⟨w.heap.size, 3, none⟩ = some a3 ∧ wX.cell? ⟨w.heap.size, 4, none⟩ = some a4 ∧ wX.cell? ⟨w.heap.size, 5, none⟩ = some a5 := by
  subst hw
  have hX := (hB.block w.heap.size (by simp)).trans (heap_alloc_new w (.cells #[a0, a1, a2, a3, a4, a5] T))
  exact ⟨cell_of_row _ w.heap.size 0 _ _ (0, 0) hX, cell_of_row _ w.heap.size 1 _ _ (0, 0) hX, cell_of_row _ w.heap.size 2 _ _ (0, 0) hX, cell_of_row _ w.heap.size 3 _ _ (0, 0) hX, cell_of_row _ w.heap.size 4 _ _ (0, 0) hX, cell_of_row _ w.heap.size 5 _ _ (0, 0) hX⟩
theorem keepR2 {W w2 w3 : World} {b  i  : Nat} {x0 x1 : Value} (hb : b < W.heap.size) (h : Below w2.heap.size w2 w3)
    (a0 : w2.cell? ⟨b, i, none⟩ = some x0) (a1 : w2.cell? ⟨b, i + 1, none⟩ = some x1) (h4 : Hid (Below W.heap.size W w2)) :
    w3.cell? ⟨b, i, none⟩ = some x0 ∧ w3.cell? ⟨b, i + 1, none⟩ = some x1 ∧ Hid (Below W.heap.size W w3) := by
  have hs := h4.out.size
  have q : ∀ (g k : Nat) (u : Value), g < W.heap.size → w2.cell? ⟨g, k, none⟩ = some u → w3.cell? ⟨g, k, none⟩ = some u := fun g k u hg e => by rw [h.cell (p := ⟨g, k, none⟩) (Nat.lt_of_lt_of_le hg hs)]; exact e
  exact ⟨q _ _ _ hb a0, q _ _ _ hb a1, Lib.hid (below_trans' h4.out h)⟩
theorem keepP2 {W w2 w3 : World} {b b' i i' : Nat} {x0 x1 y0 y1 : Value} (hb : b < W.heap.size) (hb' : b' < W.heap.size) (h : Below w2.heap.size w2 w3)
    (a0 : w2.cell? ⟨b, i, none⟩ = some x0) (a1 : w2.cell? ⟨b, i + 1, none⟩ = some x1) (c0 : w2.cell? ⟨b', i', none⟩ = some y0) (c1 : w2.cell? ⟨b', i' + 1, none⟩ = some y1) (h4 : Hid (Below W.heap.size W w2)) :
    w3.cell? ⟨b, i, none⟩ = some x0 ∧ w3.cell? ⟨b, i + 1, none⟩ = some x1 ∧ w3.cell? ⟨b', i', none⟩ = some y0 ∧ w3.cell? ⟨b', i' + 1, none⟩ = some y1 ∧ Hid (Below W.heap.size W w3) := by
  have hs := h4.out.size
  have q : ∀ (g k : Nat) (u : Value), g < W.heap.size → w2.cell? ⟨g, k, none⟩ = some u → w3.cell? ⟨g, k, none⟩ = some u := fun g k u hg e => by rw [h.cell (p := ⟨g, k, none⟩) (Nat.lt_of_lt_of_le hg hs)]; exact e
  exact ⟨q _ _ _ hb a0, q _ _ _ hb a1, q _ _ _ hb' c0, q _ _ _ hb' c1, Lib.hid (below_trans' h4.out h)⟩
theorem keepR3 {W w2 w3 : World} {b  i  : Nat} {x0 x1 x2 : Value} (hb : b < W.heap.size) (h : Below w2.heap.size w2 w3)
    (a0 : w2.cell? ⟨b, i, none⟩ = some x0) (a1 : w2.cell? ⟨b, i + 1, none⟩ = some x1) (a2 : w2.cell? ⟨b, i + 2, none⟩ = some x2) (h4 : Hid (Below W.heap.size W w2)) :
    w3.cell? ⟨b, i, none⟩ = some x0 ∧ w3.cell? ⟨b, i + 1, none⟩ = some x1 ∧ w3.cell? ⟨b, i + 2, none⟩ = some x2 ∧ Hid (Below W.heap.size W w3) := by
  have hs := h4.out.size
  have q : ∀ (g k : Nat) (u : Value), g < W.heap.size → w2.cell? ⟨g, k, none⟩ = some u → w3.cell? ⟨g, k, none⟩ = some u := fun g k u hg e => by rw [h.cell (p := ⟨g, k, none⟩) (Nat.lt_of_lt_of_le hg hs)]; exact e
  exact ⟨q _ _ _ hb a0, q _ _ _ hb a1, q _ _ _ hb a2, Lib.hid (below_trans' h4.out h)⟩
theorem keepP3 {W w2 w3 : World} {b b' i i' : Nat} {x0 x1 x2 y0 y1 y2 : Value} (hb : b < W.heap.size) (hb' : b' < W.heap.size) (h : Below w2.heap.size w2 w3)
    (a0 : w2.cell? ⟨b, i, none⟩ = some x0) (a1 : w2.cell? ⟨b, i + 1, none⟩ = some x1) (a2 : w2.cell? ⟨b, i + 2, none⟩ = some x2) (c0 : w2.cell? ⟨b', i', none⟩ = some y0) (c1 : w2.cell? ⟨b', i' + 1, none⟩ = some y1) (c2 : w2.cell? ⟨b', i' + 2, none⟩ = some y2) (h4 : Hid (Below W.heap.size W w2)) :
    w3.cell? ⟨b, i, none⟩ = some x0 ∧ w3.cell? ⟨b, i + 1, none⟩ = some x1 ∧ w3.cell? ⟨b, i + 2, none⟩ = some x2 ∧ w3.cell? ⟨b', i', none⟩ = some y0 ∧ w3.cell? ⟨b', i' + 1, none⟩ = some y1 ∧ w3.cell? ⟨b', i' + 2, none⟩ = some y2 ∧ Hid (Below W.heap.size W w3) := by
  have hs := h4.out.size
  have q : ∀ (g k : Nat) (u : Value), g < W.heap.size → w2.cell? ⟨g, k, none⟩ = some u → w3.cell? ⟨g, k, none⟩ = some u := fun g k u hg e => by rw [h.cell (p := ⟨g, k, none⟩) (Nat.lt_of_lt_of_le hg hs)]; exact e
  exact ⟨q _ _ _ hb a0, q _ _ _ hb a1, q _ _ _ hb a2, q _ _ _ hb' c0, q _ _ _ hb' c1, q _ _ _ hb' c2, Lib.hid (below_trans' h4.out h)⟩
theorem keepR4 {W w2 w3 : World} {b  i  : Nat} {x0 x1 x2 x3 : Value} (hb : b < W.heap.size) (h : Below w2.heap.size w2 w3)
    (a0 : w2.cell? ⟨b, i, none⟩ = some x0) (a1 : w2.cell? ⟨b, i + 1, none⟩ = some x1) (a2 : w2.cell? ⟨b, i + 2, none⟩ = some x2) (a3 : w2.cell? ⟨b, i + 3, none⟩ = some x3) (h4 : Hid (Below W.heap.size W w2)) :
    w3.cell? ⟨b, i, none⟩ = some x0 ∧ w3.cell? ⟨b, i + 1, none⟩ = some x1 ∧ w3.cell? ⟨b, i + 2, none⟩ = some x2 ∧ w3.cell? ⟨b, i + 3, none⟩ = some x3 ∧ Hid (Below W.heap.size W w3) := by
  have hs := h4.out.size
  have q : ∀ (g k : Nat) (u : Value), g < W.heap.size → w2.cell? ⟨g, k, none⟩ = some u → w3.cell? ⟨g, k, none⟩ = some u := fun g k u hg e => by rw [h.cell (p := ⟨g, k, none⟩) (Nat.lt_of_lt_of_le hg hs)]; exact e
  exact ⟨q _ _ _ hb a0, q _ _ _ hb a1, q _ _ _ hb a2, q _ _ _ hb a3, Lib.hid (below_trans' h4.out h)⟩
theorem keepP4 {W w2 w3 : World} {b b' i i' : Nat} {x0 x1 x2 x3 y0 y1 y2 y3 : Value} (hb : b < W.heap.size) (hb' : b' < W.heap.size) (h : Below w2.heap.size w2 w3)
    (a0 : w2.cell? ⟨b, i, none⟩ = some x0) (a1 : w2.cell? ⟨b, i + 1, none⟩ = some x1) (a2 : w2.cell? ⟨b, i + 2, none⟩ = some x2) (a3 : w2.cell? ⟨b, i + 3, none⟩ = some x3) (c0 : w2.cell? ⟨b', i', none⟩ = some y0) (c1 : w2.cell? ⟨b', i' + 1, none⟩ = some y1) (c2 : w2.cell? ⟨b', i' + 2, none⟩ = some y2) (c3 : w2.cell? ⟨b', i' + 3, none⟩ = some y3) (h4 : Hid (Below W.heap.size W w2)) :
    w3.cell? ⟨b, i, none⟩ = some x0 ∧ w3.cell? ⟨b, i + 1, none⟩ = some x1 ∧ w3.cell? ⟨b, i + 2, none⟩ = some x2 ∧ w3.cell? ⟨b, i + 3, none⟩ = some x3 ∧ w3.cell? ⟨b', i', none⟩ = some y0 ∧ w3.cell? ⟨b', i' + 1, none⟩ = some y1 ∧ w3.cell? ⟨b', i' + 2, none⟩ = some y2 ∧ w3.cell? ⟨b', i' + 3, none⟩ = some y3 ∧ Hid (Below W.heap.size W w3) := by
  have hs := h4.out.size
  have q : ∀ (g k : Nat) (u : Value), g < W.heap.size → w2.cell? ⟨g, k, none⟩ = some u → w3.cell? ⟨g, k, none⟩ = some u := fun g k u hg e => by rw [h.cell (p := ⟨g, k, none⟩) (Nat.lt_of_lt_of_le hg hs)]; exact e
  exact ⟨q _ _ _ hb a0, q _ _ _ hb a1, q _ _ _ hb a2, q _ _ _ hb a3, q _ _ _ hb' c0, q _ _ _ hb' c1, q _ _ _ hb' c2, q _ _ _ hb' c3, Lib.hid (below_trans' h4.out h)⟩
theorem keepR5 {W w2 w3 : World} {b  i  : Nat} {x0 x1 x2 x3 x4 : Value} (hb : b < W.heap.size) (h : Below w2.heap.size w2 w3)
    (a0 : w2.cell? ⟨b, i, none⟩ = some x0) (a1 : w2.cell? ⟨b, i + 1, none⟩ = some x1) (a2 : w2.cell? ⟨b, i + 2, none⟩ = some x2) (a3 : w2.cell? ⟨b, i + 3, none⟩ = some x3) (a4 : w2.cell? ⟨b, i + 4, none⟩ = some x4) (h4 : Hid (Below W.heap.size W w2)) :
    w3.cell? ⟨b, i, none⟩ = some x0 ∧ w3.cell? ⟨b, i + 1, none⟩ = some x1 ∧ w3.cell? ⟨b, i + 2, none⟩ = some x2 ∧ w3.cell? ⟨b, i + 3, none⟩ = some x3 ∧ w3.cell? ⟨b, i + 4, none⟩ = some x4 ∧ Hid (Below W.heap.size W w3) := by
  have hs := h4.out.size
  have q : ∀ (g k : Nat) (u : Value), g < W.heap.size → w2.cell? ⟨g, k, none⟩ = some u → w3.cell? ⟨g, k, none⟩ = some u := fun g k u hg e => by rw [h.cell (p := ⟨g, k, none⟩) (Nat.lt_of_lt_of_le hg hs)]; exact e
  exact ⟨q _ _ _ hb a0, q _ _ _ hb a1, q _ _ _ hb a2, q _ _ _ hb a3, q _ _ _ hb a4, Lib.hid (below_trans' h4.out h)⟩
theorem keepP5 {W w2 w3 : World} {b b' i i' : Nat} {x0 x1 x2 x3 x4 y0 y1 y2 y3 y4 : Value} (hb : b < W.heap.size) (hb' : b' < W.heap.size) (h : Below w2.heap.size w2 w3)
    (a0 : w2.cell? ⟨b, i, none⟩ = some x0) (a1 : w2.cell? ⟨b, i + 1, none⟩ = some x1) (a2 : w2.cell? ⟨b, i + 2, none⟩ = some x2) (a3 : w2.cell? ⟨b, i + 3, none⟩ = some x3) (a4 : w2.cell? ⟨b, i + 4, none⟩ = some x4) (c0 : w2.cell? ⟨b', i', none⟩ = some y0) (c1 : w2.cell? ⟨b', i' + 1, none⟩ = some y1) (c2 : w2.cell? ⟨b', i' + 2, none⟩ = some y2) (c3 : w2.cell? ⟨b', i' + 3, none⟩ = some y3) (c4 : w2.cell? ⟨b', i' + 4, none⟩ = some y4) (h4 : Hid (Below W.heap.size W w2)) :
    w3.cell? ⟨b, i, none⟩ = some x0 ∧ w3.cell? ⟨b, i + 1, none⟩ = some x1 ∧ w3.cell? ⟨b, i + 2, none⟩ = some x2 ∧ w3.cell? ⟨b, i + 3, none⟩ = some x3 ∧ w3.cell? ⟨b, i + 4, none⟩ = some x4 ∧ w3.cell? ⟨b', i', none⟩ = some y0 ∧ w3.cell? ⟨b', i' + 1, none⟩ = some y1 ∧ w3.cell? ⟨b', i' + 2, none⟩ = some y2 ∧ w3.cell? ⟨b', i' + 3, none⟩ = some y3 ∧ w3.cell? ⟨b', i' + 4, none⟩ = some y4 ∧ Hid (Below W.heap.size W w3) := by
  have hs := h4.out.size
  have q : ∀ (g k : Nat) (u : Value), g < W.heap.size → w2.cell? ⟨g, k, none⟩ = some u → w3.cell? ⟨g, k, none⟩ = some u := fun g k u hg e => by rw [h.cell (p := ⟨g, k, none⟩) (Nat.lt_of_lt_of_le hg hs)]; exact e
  exact ⟨q _ _ _ hb a0, q _ _ _ hb a1, q _ _ _ hb a2, q _ _ _ hb a3, q _ _ _ hb a4, q _ _ _ hb' c0, q _ _ _ hb' c1, q _ _ _ hb' c2, q _ _ _ hb' c3, q _ _ _ hb' c4, Lib.hid (below_trans' h4.out h)⟩
theorem made2 (a b : Value) (n : Nat) : (madeCells #[a, b] (n * 2)).toList = (List.replicate n [a, b]).flatten := by
  induction n with
  | zero => simp [madeCells]
  | succ n ih =>
    rw [List.replicate_succ', List.flatten_append, ← ih]
    unfold madeCells
    rw [Nat.succ_mul, Array.range_succ, Array.range_succ]
    have e1 : (n * 2 + 1) % 2 = 1 := by omega
    simp [e1]
theorem made3 (a b c : Value) (n : Nat) : (madeCells #[a, b, c] (n * 3)).toList = (List.replicate n [a, b, c]).flatten := by
  induction n with
  | zero => simp [madeCells]
  | succ n ih =>
    rw [List.replicate_succ', List.flatten_append, ← ih]
    unfold madeCells
    rw [Nat.succ_mul, Array.range_succ, Array.range_succ, Array.range_succ]
    have e1 : (n * 3 + 1) % 3 = 1 := by omega
    have e2 : (n * 3 + 2) % 3 = 2 := by omega
    simp [e1, e2]
theorem made4 (a b c d : Value) (n : Nat) : (madeCells #[a, b, c, d] (n * 4)).toList = (List.replicate n [a, b, c, d]).flatten := by
  induction n with
  | zero => simp [madeCells]
  | succ n ih =>
    rw [List.replicate_succ', List.flatten_append, ← ih]
    unfold madeCells
    rw [Nat.succ_mul, Array.range_succ, Array.range_succ, Array.range_succ, Array.range_succ]
    have e1 : (n * 4 + 1) % 4 = 1 := by omega
    have e2 : (n * 4 + 2) % 4 = 2 := by omega
    have e3 : (n * 4 + 3) % 4 = 3 := by omega
    simp [e1, e2, e3]
theorem made5 (a b c d e : Value) (n : Nat) : (madeCells #[a, b, c, d, e] (n * 5)).toList = (List.replicate n [a, b, c, d, e]).flatten := by
  induction n with
  | zero => simp [madeCells]
  | succ n ih =>
    rw [List.replicate_succ', List.flatten_append, ← ih]
    unfold madeCells
    rw [Nat.succ_mul, Array.range_succ, Array.range_succ, Array.range_succ, Array.range_succ, Array.range_succ]
    have e1 : (n * 5 + 1) % 5 = 1 := by omega
    have e2 : (n * 5 + 2) % 5 = 2 := by omega
    have e3 : (n * 5 + 3) % 5 = 3 := by omega
    have e4 : (n * 5 + 4) % 5 = 4 := by omega
    simp [e1, e2, e3, e4]
/-- a Handle as a value -/
def aggHn (i : Hn) : Value := .agg #[.string i.name, .string i.host]
def encHn (i : Hn) : List Value := [.string i.name, .string i.host]
theorem encHn_len (i : Hn) : (encHn i).length = 2 := rfl
theorem encHn_one (i : Hn) (u : Value) (h : u ∈ encHn i) : u.oneCell' = true := by
  simp [encHn] at h
  rcases h with rfl | rfl <;> rfl
/-- what comes in: any Handle -/
def InHn (i : Hn) : Prop := i.name.size ≤ maxLen ∧ i.host.size ≤ maxLen
def Sz1Hn (i : Hn) : Prop := i.name.size ≤ 1048576 ∧ i.host.size ≤ 1048576
def FitHn (i : Hn) : Prop := i.name.size ≤ 100000000 ∧ i.host.size ≤ 100000000
/-- a short one, as the draws make them -/
def ShHn (i : Hn) : Prop := ShS i.name ∧ ShS i.host
theorem fitHn_sz {i : Hn} (h : Sz1Hn i) : FitHn i := by
  unfold Sz1Hn at h; unfold FitHn; omega
theorem fitHn_sh {i : Hn} (h : ShHn i) : FitHn i := by
  simp only [ShHn, FitHn, ShS] at h ⊢
  omega
theorem hn_bytes (a b : ByteArray) : (⟨#[64]⟩ ++ a ++ ⟨#[64]⟩ ++ b : ByteArray) = bs (hnT1 ⟨a, b⟩) := by
  apply ByteArray.ext; apply Array.toList_inj.1
  rw [bs_data]
  simp [hnT1]
set_option maxRecDepth 100000 in
set_option maxHeartbeats 1000000 in
theorem hnI_validM (a b : ByteArray) (w : World) (m1 : a.size ≤ maxLen) (m2 : b.size ≤ maxLen) :
    Calls Try.prog 33 #[.agg #[.string a, .string b]] w (GotB (hnB ⟨a, b⟩) w) := by
  have hB := Lib.hid ((Below.refl w.heap.size w).alloc (Nat.le_refl _) (.cells #[.string a, .string b] 24))
  rcases hw : wordB a.data.toList with _ | _
  · have HR := Lib.hid (hnB_name (h := ⟨a, b⟩) hw)
    have HW := Lib.hid hw
    clear hw
    go_enter Try.func33, Try.ntmps33
    go_wp2_with (go_at_call 23; refine (word_any a _ m1).mono ?_; rintro e w' ⟨rfl, rfl⟩; rw [HW.out])
    go_ret
    exact ⟨ret_bool HR.out.symm, hB.out⟩
  · have HW := Lib.hid hw
    rcases ht : wordB b.data.toList with _ | _
    all_goals
      have HT := Lib.hid ht
      have HR : Hid (hnB ⟨a, b⟩ = _) := Lib.hid (by unfold hnB; rw [hw, ht])
      clear hw ht
      go_enter Try.func33, Try.ntmps33
      go_wp2_with (first | (go_at_call 23; ((with_reducible refine (word_any a _ m1).mono ?_); rintro e w' ⟨rfl, rfl⟩; rw [HW.out])) | (go_at_call 23; ((with_reducible refine (word_any b _ m2).mono ?_); rintro e w' ⟨rfl, rfl⟩; rw [HT.out])))
      go_ret
      exact ⟨ret_bool HR.out.symm, hB.out⟩
theorem hnI_valid (a b : ByteArray) (w : World) (hf : FitHn ⟨a, b⟩) :
    Calls Try.prog 33 #[.agg #[.string a, .string b]] w (GotB (hnB ⟨a, b⟩) w) :=
  hnI_validM a b w (fit_max hf.1) (fit_max hf.2)
set_option maxRecDepth 100000 in
set_option maxHeartbeats 1000000 in
theorem hnI_text (a b : ByteArray) (w : World) (hf : FitHn ⟨a, b⟩) :
    Calls Try.prog 16 #[.agg #[.string a, .string b]] w (GotStr (hnT ⟨a, b⟩) w) := by
  obtain ⟨w1, hw1⟩ : ∃ w1, w.alloc (.cells #[.string a, .string b] 24) = w1 := ⟨_, rfl⟩
  have hB : Below w.heap.size w w1 := by rw [← hw1]; exact (Below.refl _ _).alloc (Nat.le_refl _) _
  have hB := Lib.hid hB
  obtain ⟨r0, r1⟩ := row2 hw1 (Below.refl _ _)
  have z1 : (⟨#[64]⟩ : ByteArray).size = 1 := rfl
  have f1 : a.size ≤ 100000000 := hf.1
  have f2 : b.size ≤ 100000000 := hf.2
  have s1 : (⟨#[64]⟩ : ByteArray).size + a.size ≤ 9223372036854775807 := by omega
  have s2 : (⟨#[64]⟩ ++ a : ByteArray).size + (⟨#[64]⟩ : ByteArray).size ≤ 9223372036854775807 := by rw [ByteArray.size_append]; omega
  have s3 : (⟨#[64]⟩ ++ a ++ ⟨#[64]⟩ : ByteArray).size + b.size ≤ 9223372036854775807 := by rw [ByteArray.size_append, ByteArray.size_append]; omega
  clear z1 f1 f2
  go_enter Try.func16, Try.ntmps16
  go_wp2_with fail
  have hw1 := Lib.hid hw1
  refine (hnI_valid a b _ hf).mono ?_
  rintro e w2 ⟨rfl, hb2⟩
  clear r0 r1
  obtain ⟨r0, r1⟩ := row2 hw1.out hb2
  have hb2 := Lib.hid (below_trans' hB.out hb2)
  rcases hi : hnB ⟨a, b⟩ with _ | _
  · have HR := Lib.hid (hnT_out hi)
    go_wp2
    go_ret
    exact ⟨by rw [HR.out]; rfl, hb2.out⟩
  · have HR : Hid (⟨#[64]⟩ ++ a ++ ⟨#[64]⟩ ++ b = bs (hnT ⟨a, b⟩)) := Lib.hid (by rw [hnT_in hi]; exact hn_bytes a b)
    go_wp2
    go_ret
    exact ⟨by rw [← HR.out]; rfl, hb2.out⟩
set_option maxRecDepth 100000 in
set_option maxHeartbeats 1000000 in
theorem hnS_validM (a b : ByteArray) (w : World) (m1 : a.size ≤ maxLen) (m2 : b.size ≤ maxLen) :
    Calls Try.prog 21 #[.agg #[.string a, .string b]] w (GotB (hnB ⟨a, b⟩) w) := by
  have hB := Lib.hid ((Below.refl w.heap.size w).alloc (Nat.le_refl _) (.cells #[.string a, .string b] 24))
  rcases hw : wordB a.data.toList with _ | _
  · have HR := Lib.hid (hnB_name (h := ⟨a, b⟩) hw)
    have HW := Lib.hid hw
    clear hw
    go_enter Try.func21, Try.ntmps21
    go_wp2_with (go_at_call 22; refine (sword_any a _ m1).mono ?_; rintro e w' ⟨rfl, rfl⟩; rw [HW.out])
    go_ret
    exact ⟨ret_bool HR.out.symm, hB.out⟩
  · have HW := Lib.hid hw
    rcases ht : wordB b.data.toList with _ | _
    all_goals
      have HT := Lib.hid ht
      have HR : Hid (hnB ⟨a, b⟩ = _) := Lib.hid (by unfold hnB; rw [hw, ht])
      clear hw ht
      go_enter Try.func21, Try.ntmps21
      go_wp2_with (first | (go_at_call 22; ((with_reducible refine (sword_any a _ m1).mono ?_); rintro e w' ⟨rfl, rfl⟩; rw [HW.out])) | (go_at_call 22; ((with_reducible refine (sword_any b _ m2).mono ?_); rintro e w' ⟨rfl, rfl⟩; rw [HT.out])))
      go_ret
      exact ⟨ret_bool HR.out.symm, hB.out⟩
theorem hnS_valid (a b : ByteArray) (w : World) (hf : FitHn ⟨a, b⟩) :
    Calls Try.prog 21 #[.agg #[.string a, .string b]] w (GotB (hnB ⟨a, b⟩) w) :=
  hnS_validM a b w (fit_max hf.1) (fit_max hf.2)
set_option maxRecDepth 100000 in
set_option maxHeartbeats 1000000 in
theorem hnS_text (a b : ByteArray) (w : World) (hf : FitHn ⟨a, b⟩) :
    Calls Try.prog 19 #[.agg #[.string a, .string b]] w (GotStr (hnT ⟨a, b⟩) w) := by
  obtain ⟨w1, hw1⟩ : ∃ w1, w.alloc (.cells #[.string a, .string b] 24) = w1 := ⟨_, rfl⟩
  have hB : Below w.heap.size w w1 := by rw [← hw1]; exact (Below.refl _ _).alloc (Nat.le_refl _) _
  have hB := Lib.hid hB
  obtain ⟨r0, r1⟩ := row2 hw1 (Below.refl _ _)
  have z1 : (⟨#[64]⟩ : ByteArray).size = 1 := rfl
  have f1 : a.size ≤ 100000000 := hf.1
  have f2 : b.size ≤ 100000000 := hf.2
  have s1 : (⟨#[64]⟩ : ByteArray).size + a.size ≤ 9223372036854775807 := by omega
  have s2 : (⟨#[64]⟩ ++ a : ByteArray).size + (⟨#[64]⟩ : ByteArray).size ≤ 9223372036854775807 := by rw [ByteArray.size_append]; omega
  have s3 : (⟨#[64]⟩ ++ a ++ ⟨#[64]⟩ : ByteArray).size + b.size ≤ 9223372036854775807 := by rw [ByteArray.size_append, ByteArray.size_append]; omega
  clear z1 f1 f2
  go_enter Try.func19, Try.ntmps19
  go_wp2_with fail
  have hw1 := Lib.hid hw1
  refine (hnS_valid a b _ hf).mono ?_
  rintro e w2 ⟨rfl, hb2⟩
  clear r0 r1
  obtain ⟨r0, r1⟩ := row2 hw1.out hb2
  have hb2 := Lib.hid (below_trans' hB.out hb2)
  rcases hi : hnB ⟨a, b⟩ with _ | _
  · have HR := Lib.hid (hnT_out hi)
    go_wp2
    go_ret
    exact ⟨by rw [HR.out]; rfl, hb2.out⟩
  · have HR : Hid (⟨#[64]⟩ ++ a ++ ⟨#[64]⟩ ++ b = bs (hnT ⟨a, b⟩)) := Lib.hid (by rw [hnT_in hi]; exact hn_bytes a b)
    go_wp2
    go_ret
    exact ⟨by rw [← HR.out]; rfl, hb2.out⟩
/-- a handle and whether there is one -/
def GotHR (s : List UInt8) (w : World) (e : Ending) (w' : World) : Prop := ∃ (a b : ByteArray) (z : Bool), hnR s = (⟨a, b⟩, z) ∧ e = .returned (.tuple #[.agg #[.string a, .string b], .bool z]) ∧ Below w.heap.size w w'
theorem hnR_beg {s : List UInt8} (h : decide (s.take 1 = [64]) = false) : hnR s = (Hn.zero, false) := hnR_no (fun x b q => by have h := of_decide_eq_false h; exact h (by subst q; rfl))
theorem hnR_far {s : ByteArray} (p : ∀ i (hi : i < s.size), 1 ≤ i → s[i] ≠ 64) : hnR s.data.toList = (Hn.zero, false) :=
  hnR_no (hn_none (fun i hi h => p i (by rw [← blen]; exact hi) h))
/-- the handle that the first @ behind the first byte parts -/
def hnCut (s : ByteArray) (n : Nat) : Hn := ⟨s.extract 1 n, s.extract (n + 1) s.size⟩
theorem hnCut_name (s : ByteArray) (n : Nat) : (hnCut s n).name.data.toList = (s.data.toList.drop 1).take (n - 1) := by simp [hnCut]
theorem hnCut_host (s : ByteArray) (n : Nat) : (hnCut s n).host.data.toList = s.data.toList.drop (n + 1) := by
  have h := List.take_of_length_le (l := s.data.toList.drop (n + 1)) (i := s.size - (n + 1)) (by rw [List.length_drop, blen]; omega)
  simpa [hnCut] using h
theorem hnCut_only {s : ByteArray} {n : Nat} (h1 : 1 ≤ n) (hn : n < s.size) (p : ∀ i (hi : i < s.size), 1 ≤ i → i < n → s[i] ≠ 64) (e : s[n] = 64) {x : Hn} (b : hnB x = true) (q : hnT1 x = s.data.toList) : x = hnCut s n := by
  obtain ⟨a1, a2⟩ := hn_at (s := s.data.toList) h1 (by rw [blen]; exact hn) (fun i hi h2 h3 => p i (by rw [← blen]; exact hi) h2 h3) e b q
  obtain ⟨x1, x2⟩ := x
  have e1 : x1 = (hnCut s n).name := by apply ByteArray.ext; apply Array.toList_inj.1; rw [hnCut_name]; exact a1
  have e2 : x2 = (hnCut s n).host := by apply ByteArray.ext; apply Array.toList_inj.1; rw [hnCut_host]; exact a2
  rw [e1, e2]
theorem hnCut_text {s : ByteArray} {n : Nat} (h1 : 1 ≤ n) (hn : n < s.size) (e : s[n] = 64) (h0 : s.data.toList.take 1 = [64]) : hnT1 (hnCut s n) = s.data.toList := by
  unfold hnT1
  rw [hnCut_name, hnCut_host]
  have hl : s.data.toList.length = s.size := blen s
  obtain ⟨l, hl2⟩ : ∃ l, s.data.toList = l := ⟨_, rfl⟩
  have e' : s.data.toList[n]'(by rw [hl]; exact hn) = 64 := e
  rw [hl2] at h0 hl ⊢
  have e2 : l[n]'(by omega) = 64 := by subst hl2; exact e'
  cases l with
  | nil => simp at h0
  | cons c l =>
    have hc : c = 64 := by simpa using h0
    subst hc
    obtain ⟨k, rfl⟩ : ∃ k, n = k + 1 := ⟨n - 1, by omega⟩
    simp only [List.drop_succ_cons, List.drop_zero, Nat.add_sub_cancel]
    simp only [List.getElem_cons_succ] at e2
    have hk : k < l.length := by simp at hl; omega
    have : l.drop k = 64 :: l.drop (k + 1) := by rw [List.drop_eq_getElem_cons hk, e2]
    rw [← this, List.take_append_drop]
theorem hnR_cutB {s : ByteArray} {n : Nat} (h1 : 1 ≤ n) (hn : n < s.size) (p : ∀ i (hi : i < s.size), 1 ≤ i → i < n → s[i] ≠ 64) (e : s[n] = 64) (hb : hnB (hnCut s n) = false) : hnR s.data.toList = (Hn.zero, false) :=
  hnR_no (fun x b q => by rw [hnCut_only h1 hn p e b q, hb] at b; cases b)
theorem hnR_cutT {s : ByteArray} {n : Nat} (h1 : 1 ≤ n) (hn : n < s.size) (p : ∀ i (hi : i < s.size), 1 ≤ i → i < n → s[i] ≠ 64) (e : s[n] = 64) (hb : hnT1 (hnCut s n) ≠ s.data.toList) : hnR s.data.toList = (Hn.zero, false) :=
  hnR_no (fun x b q => by rw [hnCut_only h1 hn p e b q] at q; exact hb q)
theorem hnR_cutR {s : ByteArray} {n : Nat} (hb : hnB (hnCut s n) = true) (q : hnT1 (hnCut s n) = s.data.toList) : hnR s.data.toList = (hnCut s n, true) := hnR_of hb q
/-- the result's variable, as the call made it, behind whatever kept it -/
theorem zeroHn {w w1 wX : World} (hw : w.alloc (.cells #[.string ⟨#[]⟩, .string ⟨#[]⟩] 24) = w1) (hB : Below w1.heap.size w1 wX) :
    wX.cell? ⟨w.heap.size, 0, none⟩ = some (.string ⟨#[]⟩) ∧ wX.cell? ⟨w.heap.size, 1, none⟩ = some (.string ⟨#[]⟩) ∧ (∀ j, wX.frozen? ⟨w.heap.size, j, none⟩ = false) ∧ Below w.heap.size w wX := by
  subst hw
  have hrow := heap_alloc_new w (.cells #[.string ⟨#[]⟩, .string ⟨#[]⟩] 24)
  have hX := (hB.block w.heap.size (by simp)).trans hrow
  refine ⟨cell_of_row _ w.heap.size 0 _ _ (0, 0) hX, cell_of_row _ w.heap.size 1 _ _ (0, 0) hX, fun j => by simp [World.frozen?, hX], ?_⟩
  exact ((Below.refl _ _).alloc (Nat.le_refl _) _).trans (hB.mono (by simp))
theorem fitHn_of {a b : ByteArray} (h : hnB ⟨a, b⟩ = true) : FitHn ⟨a, b⟩ := by
  have h1 := (word_len (hnB_of h).1).2
  have h2 := (word_len (hnB_of h).2).2
  rw [blen] at h1 h2
  exact ⟨by show a.size ≤ _; simp only at h1; omega, by show b.size ≤ _; simp only at h2; omega⟩
set_option maxRecDepth 100000 in
set_option maxHeartbeats 4000000 in
theorem hnI_readL (s : ByteArray) (w : World) (hs : s.size ≤ 3000000000) :
    Calls Try.prog 25 #[.string s] w (GotHR s.data.toList w) := by
  have hsm : s.size ≤ maxLen := by unfold maxLen; omega
  have z1 : (⟨#[64]⟩ : ByteArray).size = 1 := rfl
  obtain ⟨w1, hw1⟩ : ∃ w1, w.alloc (.cells #[.string ⟨#[]⟩, .string ⟨#[]⟩] 24) = w1 := ⟨_, rfl⟩
  have hfin : ∀ wX, Below w1.heap.size w1 wX → (wX.cell? ⟨w.heap.size, 0, none⟩ = some (.string ⟨#[]⟩) ∧ wX.cell? ⟨w.heap.size, 1, none⟩ = some (.string ⟨#[]⟩) ∧ (∀ j, wX.frozen? ⟨w.heap.size, j, none⟩ = false) ∧ Below w.heap.size w wX) := fun wX hX => zeroHn hw1 hX
  have hfin := Lib.hid hfin
  have ZR : ∀ wX, Below w.heap.size w wX → Below w.heap.size w ((wX.setCell ⟨w.heap.size, 0, none⟩ (.string ⟨#[]⟩)).setCell ⟨w.heap.size, 1, none⟩ (.string ⟨#[]⟩)) := fun wX h => (h.setCell (Nat.le_refl _) _).setCell (Nat.le_refl _) _
  have ZR := Lib.hid ZR
  rcases hbeg : decide (s.data.toList.take 1 = [64]) with _ | _
  · have HR := Lib.hid (hnR_beg hbeg)
    have HB := Lib.hid hbeg
    clear hbeg
    obtain ⟨c0, c1, cf, hbw⟩ := hfin.out w1 (Below.refl _ _)
    have HW := Lib.hid hbw
    clear hbw
    go_enter Try.func25, Try.ntmps25
    go_wp2_with (go_at_call 38; refine (beg_any s ⟨#[64]⟩ _ hsm (by decide)).mono ?_; rintro e w' ⟨rfl, rfl⟩; rw [show (⟨#[64]⟩ : ByteArray).size = 1 from rfl, show (⟨#[64]⟩ : ByteArray).data.toList = [64] from rfl, HB.out])
    have hw1 := Lib.hid hw1
    refine bodyPost_ret (v := .tuple #[.agg #[.string ⟨#[]⟩, .string ⟨#[]⟩], .bool false]) (by simp [results, Try.results25, go_sem, c0, c1]) rfl ⟨⟨#[]⟩, ⟨#[]⟩, false, HR.out, rfl, ?_⟩
    exact ZR.out _ HW.out
  · have HB := Lib.hid hbeg
    have hsz : 1 ≤ s.size := by
      have := of_decide_eq_true hbeg
      have := congrArg List.length this
      rw [List.length_take, blen] at this; simp at this; omega
    have HT := Lib.hid (of_decide_eq_true hbeg)
    clear hbeg
    go_enter Try.func25, Try.ntmps25
    go_wp2_with (first | (go_at_call 38; refine (beg_any s ⟨#[64]⟩ _ hsm (by decide)).mono ?_; rintro e w' ⟨rfl, rfl⟩; rw [show (⟨#[64]⟩ : ByteArray).size = 1 from rfl, show (⟨#[64]⟩ : ByteArray).data.toList = [64] from rfl, HB.out]) | fail)
    have hw1 := Lib.hid hw1
    refine (place_any s 1 64 _ hsm hsz).mono ?_
    rintro e w2 ⟨n, hp, rfl, rfl⟩
    obtain ⟨p1, p2, p3, p4⟩ := hp
    obtain ⟨c0, c1, cf, hbw⟩ := hfin.out w1 (Below.refl _ _)
    have HW := Lib.hid hbw
    clear hbw
    by_cases hn : n = s.size
    · subst hn
      have HR := Lib.hid (hnR_far (fun i hi h => p3 i hi h hi))
      have t1 : ((s.size : Int) == (s.size : Int)) = true := by simp
      clear p3 p4
      go_wp2
      refine bodyPost_ret (v := .tuple #[.agg #[.string ⟨#[]⟩, .string ⟨#[]⟩], .bool false]) (by simp [results, Try.results25, go_sem, c0, c1]) rfl ⟨⟨#[]⟩, ⟨#[]⟩, false, HR.out, rfl, ?_⟩
      exact ZR.out _ HW.out
    · have hn2 : n < s.size := by omega
      have he : s[n] = 64 := by
        rcases p4 with h | ⟨_, h⟩
        · exact absurd h hn
        · exact h
      have t1 : ((n : Int) == (s.size : Int)) = false := by rw [beq_eq_false_iff_ne]; omega
      have HX := Lib.hid (hnCut_text p1 hn2 he HT.out)
      have HN := Lib.hid (fun q => hnR_cutB p1 hn2 p3 he q)
      have q1 : n + 1 ≤ s.size := by omega
      have f1 : (hnCut s n).name.size ≤ maxLen ∧ (hnCut s n).host.size ≤ maxLen := ⟨by show (s.extract 1 n).size ≤ _; rw [ByteArray.size_extract]; unfold maxLen; omega, by show (s.extract (n + 1) s.size).size ≤ _; rw [ByteArray.size_extract]; unfold maxLen; omega⟩
      obtain ⟨x, hx⟩ : ∃ x, hnCut s n = x := ⟨_, rfl⟩
      obtain ⟨x0, x1⟩ := x
      obtain ⟨hx0, hx1⟩ : s.extract 1 n = x0 ∧ s.extract (n + 1) s.size = x1 := by unfold hnCut at hx; injection hx with a b; exact ⟨a, b⟩
      rw [hx] at f1
      have HC := Lib.hid hx
      clear p3 p4 hn he hx
      go_wp2
      go_region
      obtain ⟨w3, hw3⟩ : ∃ w3, (w1.alloc (.cells #[.string x0, .string x1] 24)).drew = w3 := ⟨_, rfl⟩
      rw [hw3]
      have hb3 : Below w1.heap.size w1 w3 := by rw [← hw3]; exact Below.drew ((Below.refl _ _).alloc (Nat.le_refl _) _)
      have hr3 : w3.heap[w1.heap.size]? = some (.cells #[.string x0, .string x1] 24 (0, 0)) := by rw [← hw3]; exact heap_alloc_new w1 _
      have hl3 : w1.heap.size < w3.heap.size := (Array.getElem?_eq_some_iff.1 hr3).1
      have y0 := cell_of_row w3 w1.heap.size 0 _ _ (0, 0) hr3
      have y1 := cell_of_row w3 w1.heap.size 1 _ _ (0, 0) hr3
      have hr3 := Lib.hid hr3
      have hb3 := Lib.hid hb3
      have hl3 := Lib.hid hl3
      clear hw3 c0 c1 cf
      go_wp2_with fail
      refine (hnI_validM x0 x1 _ f1.1 f1.2).mono ?_
      rintro e w4 ⟨rfl, hb4⟩
      have hr4 := (hb4.block w1.heap.size hl3.out).trans hr3.out
      clear y0 y1
      have y0 := cell_of_row w4 w1.heap.size 0 _ _ (0, 0) hr4
      have y1 := cell_of_row w4 w1.heap.size 1 _ _ (0, 0) hr4
      have hb14 := below_trans' hb3.out hb4
      obtain ⟨c0, c1, cf, hbw⟩ := hfin.out w4 hb14
      have HW4 := Lib.hid hbw
      clear hr4 hb14 hbw hb4
      rcases hi : hnB ⟨x0, x1⟩ with _ | _
      · have HR := Lib.hid (HN.out (by rw [HC.out]; exact hi))
        clear hi
        go_wp2
        refine bodyPost_ret (v := .tuple #[.agg #[.string ⟨#[]⟩, .string ⟨#[]⟩], .bool false]) (by simp [results, Try.results25, go_sem, c0, c1]) rfl ⟨⟨#[]⟩, ⟨#[]⟩, false, HR.out, rfl, ?_⟩
        exact ZR.out _ HW4.out
      · have HR := Lib.hid (hnR_cutR (by rw [HC.out]; exact hi) HX.out)
        clear hi
        go_wp2
        refine bodyPost_ret (v := .tuple #[.agg #[.string x0, .string x1], .bool true]) (by simp [results, Try.results25, go_sem, c0, c1]) rfl ⟨x0, x1, true, by rw [HR.out, HC.out], rfl, ?_⟩
        exact (HW4.out.setCell (Nat.le_refl _) _).setCell (Nat.le_refl _) _
theorem hnI_read (s : ByteArray) (w : World) (hs : s.size ≤ 90000000) :
    Calls Try.prog 25 #[.string s] w (GotHR s.data.toList w) := hnI_readL s w (by omega)
theorem less_irr (l : List UInt8) : Op.bytesLess l l = false := by
  rcases q : Op.bytesLess l l with _ | _
  · rfl
  · exact absurd rfl (less_asymm q).2
theorem hnL_same {x y : Hn} (h : x.host = y.host) : hnL x y = Op.bytesLess x.name.toList y.name.toList := by
  unfold hnL; rw [h, less_irr, ByteArray.toList_eq, ByteArray.toList_eq]; simp
theorem hnL_other {x y : Hn} (h : ¬ x.host = y.host) : hnL x y = Op.bytesLess x.host.toList y.host.toList := by
  unfold hnL; rw [ByteArray.toList_eq, ByteArray.toList_eq]; simp [h]
theorem less_total {a b : List UInt8} (h : a ≠ b) (h' : Op.bytesLess a b = false) : Op.bytesLess b a = true := by
  rw [bytesLess_eq] at h' ⊢
  have h' := of_decide_eq_false h'
  refine decide_eq_true ?_
  rcases List.le_total a b with k | k
  · rcases List.le_iff_lt_or_eq.1 k with q | q
    · exact absurd q h'
    · exact absurd q h
  · rcases List.le_iff_lt_or_eq.1 k with q | q
    · exact q
    · exact absurd q.symm h
theorem hnL_self (x : Hn) : hnL x x = false := by rw [hnL_same rfl, less_irr]
theorem data_ne {a b : ByteArray} (h : ¬ a = b) : a.toList ≠ b.toList := fun e => h (by apply ByteArray.ext; apply Array.toList_inj.1; rw [ByteArray.toList_eq, ByteArray.toList_eq] at e; exact e)
theorem hnL_one {x y : Hn} (h : x ≠ y) : (hnL x y = true ∧ hnL y x = false) ∨ (hnL x y = false ∧ hnL y x = true) := by
  by_cases e : x.host = y.host
  · have hn : ¬ x.name = y.name := fun q => h (by obtain ⟨a, b⟩ := x; obtain ⟨c, d⟩ := y; simp only at e q; subst e; subst q; rfl)
    rw [hnL_same e, hnL_same e.symm]
    rcases q : Op.bytesLess x.name.toList y.name.toList with _ | _
    · exact .inr ⟨rfl, less_total (data_ne hn) q⟩
    · exact .inl ⟨rfl, (less_asymm q).1⟩
  · rw [hnL_other e, hnL_other (fun k => e k.symm)]
    rcases q : Op.bytesLess x.host.toList y.host.toList with _ | _
    · exact .inr ⟨rfl, less_total (data_ne e) q⟩
    · exact .inl ⟨rfl, (less_asymm q).1⟩
end Go.Proofs.Ytolkgamfoopnjaa
