/-
  The verifier's own text: ShortB HandMath RowN THn HandI HandR HandB.
-/
import Derived.Test.YthniiknhbhoncaaRows
import Derived.Test.YthniiknhbhoncaaGa
import Derived.Test.YthniiknhbhoncaaGn
import Derived.Test.YthniiknhbhoncaaGb
import Derived.Lib.SmallJoins
import Derived.Test.YthniiknhbhoncaaGo
import Derived.Test.YthniiknhbhoncaaGc
import Derived.Test.YthniiknhbhoncaaGi
import Derived.WalkKit
import Derived.ProofKit
import Derived.Below
import Derived.Lib.Hide
import Derived.Outline
import Derived.BigQuiet
import Derived.Deep.QuietTactic
import Derived.Deep.Draws
import Derived.Laws.OwnMore
import Derived.Laws.Rows
import Derived.WalkSpells
import Derived.Deep.RegionWith
namespace Go.Proofs.Ythniiknhbhoncaa
open Go.RowKit
set_option linter.unusedVariables false
/-- a text and a number as the draws make them -/
def ShS (s : ByteArray) : Prop := s.size ≤ 100
def ShI (z : Int) : Prop := -1000000 ≤ z ∧ z ≤ 1000000
/-- a handle -/
structure Hn where
  name : ByteArray
  host : ByteArray
def Hn.zero : Hn := ⟨⟨#[]⟩, ⟨#[]⟩⟩
instance hnDec : DecidableEq Hn := fun a b => if h : a.name = b.name ∧ a.host = b.host then isTrue (by obtain ⟨a0, a1⟩ := a; obtain ⟨b0, b1⟩ := b; obtain ⟨h0, h1⟩ := h; simp only at h0 h1; subst h0; subst h1; rfl) else isFalse (by rintro rfl; exact h ⟨rfl, rfl⟩)
def hnB (h : Hn) : Bool := wordB h.name.data.toList && wordB h.host.data.toList
theorem hnB_of {h : Hn} (e : hnB h = true) : wordB h.name.data.toList = true ∧ wordB h.host.data.toList = true := by simpa [hnB] using e
theorem hnB_name {h : Hn} (e : wordB h.name.data.toList = false) : hnB h = false := by simp [hnB, e]
theorem hnB_host {h : Hn} (e : wordB h.host.data.toList = false) : hnB h = false := by simp [hnB, e]
theorem hnB_mk {h : Hn} (a : wordB h.name.data.toList = true) (b : wordB h.host.data.toList = true) : hnB h = true := by simp [hnB, a, b]
theorem hnB_zero : hnB Hn.zero = false := by decide
/-- its text -/
def hnT1 (h : Hn) : List UInt8 := 64 :: (h.name.data.toList ++ 64 :: h.host.data.toList)
def hnT (h : Hn) : List UInt8 := if hnB h then hnT1 h else []
theorem hnT_in {h : Hn} (e : hnB h = true) : hnT h = hnT1 h := by simp [hnT, e]
theorem hnT_out {h : Hn} (e : hnB h = false) : hnT h = [] := by simp [hnT, e]
theorem hnT_len (h : Hn) : (hnT h).length ≤ 18 := by
  unfold hnT; split
  · rename_i e
    have := word_len (hnB_of e).1
    have := word_len (hnB_of e).2
    simp only [hnT1, List.length_cons, List.length_append]; omega
  · simp
theorem word_no64 {l : List UInt8} (h : wordB l = true) : (64 : UInt8) ∉ l := by
  unfold wordB at h
  simp only [Bool.and_eq_true, List.all_eq_true] at h
  intro m
  have := h.2 _ m
  revert this; decide
theorem hn_inj {h h' : Hn} (a : hnB h = true) (b : hnB h' = true) (e : hnT1 h = hnT1 h') : h = h' := by
  unfold hnT1 at e
  have e := List.tail_eq_of_cons_eq e
  obtain ⟨e1, e2⟩ := cut_eq (word_no64 (hnB_of a).1) (word_no64 (hnB_of b).1) e
  obtain ⟨n, o⟩ := h
  obtain ⟨n', o'⟩ := h'
  simp only at e1 e2
  have : n = n' := by apply ByteArray.ext; exact Array.toList_inj.1 e1
  subst this
  have : o = o' := by apply ByteArray.ext; exact Array.toList_inj.1 e2
  subst this
  rfl
open Classical in
/-- the handle that a text stands for -/
noncomputable def hnR (s : List UInt8) : Hn × Bool := if h : ∃ x, hnB x = true ∧ hnT1 x = s then (Classical.choose h, true) else (Hn.zero, false)
theorem hnR_of {s : List UInt8} {x : Hn} (a : hnB x = true) (e : hnT1 x = s) : hnR s = (x, true) := by
  have h : ∃ x, hnB x = true ∧ hnT1 x = s := ⟨x, a, e⟩
  unfold hnR
  rw [dif_pos h]
  obtain ⟨c, d⟩ := Classical.choose_spec h
  rw [hn_inj c a (d.trans e.symm)]
theorem hnR_no {s : List UInt8} (e : ∀ x, hnB x = true → hnT1 x ≠ s) : hnR s = (Hn.zero, false) := by
  unfold hnR
  rw [dif_neg (by rintro ⟨x, a, b⟩; exact e x a b)]
theorem hnR_text {x : Hn} (a : hnB x = true) : hnR (hnT x) = (x, true) := by rw [hnT_in a]; exact hnR_of a rfl
theorem hnR_got {s : List UInt8} {x : Hn} (h : hnR s = (x, true)) : hnB x = true ∧ hnT x = s := by
  unfold hnR at h
  split at h
  · rename_i q
    obtain ⟨c, d⟩ := Classical.choose_spec q
    have : Classical.choose q = x := by injection h
    rw [this] at c d
    exact ⟨c, by rw [hnT_in c]; exact d⟩
  · simp at h
theorem hnR_false {s : List UInt8} {x : Hn} (h : hnR s = (x, false)) : x = Hn.zero := by
  unfold hnR at h
  split at h
  · simp at h
  · injection h with a b; exact a.symm
/-- with an @ behind it nothing is a handle's text -/
theorem hnR_more {s : List UInt8} {x : Hn} (h : hnR s = (x, true)) : hnR (s ++ [64]) = (Hn.zero, false) := by
  obtain ⟨a, e⟩ := hnR_got h
  refine hnR_no (fun y b q => ?_)
  rw [hnT_in a] at e
  subst e
  unfold hnT1 at q
  have q : y.name.data.toList ++ 64 :: y.host.data.toList = x.name.data.toList ++ 64 :: (x.host.data.toList ++ [64]) := by simpa using q
  obtain ⟨_, q2⟩ := cut_eq (word_no64 (hnB_of b).1) (word_no64 (hnB_of a).1) q
  have := word_no64 (hnB_of b).2
  rw [q2] at this
  exact this (by simp)
/-- the first @ behind the first byte -/
theorem hn_at {s : List UInt8} {k : Nat} (h1 : 1 ≤ k) (hk : k < s.length) (p : ∀ i (hi : i < s.length), 1 ≤ i → i < k → s[i] ≠ 64) (e : s[k] = 64) {x : Hn} (b : hnB x = true) (q : hnT1 x = s) :
    x.name.data.toList = (s.drop 1).take (k - 1) ∧ x.host.data.toList = s.drop (k + 1) := by
  subst q
  have hl : (hnT1 x)[x.name.data.toList.length + 1]'(by simp [hnT1]) = 64 := by simp [hnT1]
  have hk2 : k = x.name.data.toList.length + 1 := by
    rcases Nat.lt_trichotomy k (x.name.data.toList.length + 1) with h | h | h
    · exfalso
      have hm : (hnT1 x)[k] ∈ x.name.data.toList := by
        obtain ⟨j, rfl⟩ : ∃ j, k = j + 1 := ⟨k - 1, by omega⟩
        have : (hnT1 x)[j + 1] = x.name.data.toList[j]'(by omega) := by
          simp only [hnT1, List.getElem_cons_succ]
          rw [List.getElem_append_left]
        rw [this]; exact List.getElem_mem _
      rw [e] at hm
      exact word_no64 (hnB_of b).1 hm
    · exact h
    · exact absurd hl (p _ _ (by omega) h)
  subst hk2
  constructor
  · simp [hnT1]
  · show _ = (x.name.data.toList ++ 64 :: x.host.data.toList).drop (x.name.data.toList.length + 1)
    rw [List.drop_length_add_append]; rfl
theorem hn_none {s : List UInt8} (p : ∀ i (hi : i < s.length), 1 ≤ i → s[i] ≠ 64) : ∀ x, hnB x = true → hnT1 x ≠ s := by
  rintro x b rfl
  exact p (x.name.data.toList.length + 1) (by simp [hnT1]) (by omega) (by simp [hnT1])
/-- the order of handles -/
def hnL (a b : Hn) : Bool := Op.bytesLess a.host.data.toList b.host.data.toList || (decide (a.host = b.host) && Op.bytesLess a.name.data.toList b.name.data.toList)
/-! a variable of n cells, as it was made, behind whatever kept it -/
theorem row2 {w w1 wX : World} {a0 a1 : Value} {T : TypeId} (hw : w.alloc (.cells #[a0, a1] T) = w1) (hB : Below w1.heap.size w1 wX) :
    wX.cell? ⟨w.heap.size, 0, none⟩ = some a0 ∧ wX.cell? ⟨w.heap.size, 1, none⟩ = some a1 := by
  subst hw
  have hX := (hB.block w.heap.size (by simp)).trans (heap_alloc_new w (.cells #[a0, a1] T))
  exact ⟨cell_of_row _ w.heap.size 0 _ _ (0, 0) hX, cell_of_row _ w.heap.size 1 _ _ (0, 0) hX⟩
theorem row3 {w w1 wX : World} {a0 a1 a2 : Value} {T : TypeId} (hw : w.alloc (.cells #[a0, a1, a2] T) = w1) (hB : Below w1.heap.size w1 wX) :
    wX.cell? ⟨w.heap.size, 0, none⟩ = some a0 ∧ wX.cell? ⟨w.heap.size, 1, none⟩ = some a1 ∧ wX.cell? ⟨w.heap.size, 2, none⟩ = some a2 := by
  subst hw
  have hX := (hB.block w.heap.size (by simp)).trans (heap_alloc_new w (.cells #[a0, a1, a2] T))
  exact ⟨cell_of_row _ w.heap.size 0 _ _ (0, 0) hX, cell_of_row _ w.heap.size 1 _ _ (0, 0) hX, cell_of_row _ w.heap.size 2 _ _ (0, 0) hX⟩
theorem row5 {w w1 wX : World} {a0 a1 a2 a3 a4 : Value} {T : TypeId} (hw : w.alloc (.cells #[a0, a1, a2, a3, a4] T) = w1) (hB : Below w1.heap.size w1 wX) :
    wX.cell? ⟨w.heap.size, 0, none⟩ = some a0 ∧ wX.cell? ⟨w.heap.size, 1, none⟩ = some a1 ∧ wX.cell? ⟨w.heap.size, 2, none⟩ = some a2 ∧ wX.cell? ⟨w.heap.size, 3, none⟩ = some a3 ∧ wX.cell? ⟨w.heap.size, 4, none⟩ = some a4 := by
  subst hw
  have hX := (hB.block w.heap.size (by simp)).trans (heap_alloc_new w (.cells #[a0, a1, a2, a3, a4] T))
  exact ⟨cell_of_row _ w.heap.size 0 _ _ (0, 0) hX, cell_of_row _ w.heap.size 1 _ _ (0, 0) hX, cell_of_row _ w.heap.size 2 _ _ (0, 0) hX, cell_of_row _ w.heap.size 3 _ _ (0, 0) hX, cell_of_row _ w.heap.size 4 _ _ (0, 0) hX⟩
theorem row6 {w w1 wX : World} {a0 a1 a2 a3 a4 a5 : Value} {T : TypeId} (hw : w.alloc (.cells #[a0, a1, a2, a3, a4, a5] T) = w1) (hB : Below w1.heap.size w1 wX) :
    wX.cell? ⟨w.heap.size, 0, none⟩ = some a0 ∧ wX.cell? ⟨w.heap.size, 1, none⟩ = some a1 ∧ wX.cell? ⟨w.heap.size, 2, none⟩ = some a2 ∧ wX.cell? ⟨w.heap.size, 3, none⟩ = some a3 ∧ wX.cell? ⟨w.heap.size, 4, none⟩ = some a4 ∧ wX.cell? ⟨w.heap.size, 5, none⟩ = some a5 := by
  subst hw
  have hX := (hB.block w.heap.size (by simp)).trans (heap_alloc_new w (.cells #[a0, a1, a2, a3, a4, a5] T))
  exact ⟨cell_of_row _ w.heap.size 0 _ _ (0, 0) hX, cell_of_row _ w.heap.size 1 _ _ (0, 0) hX, cell_of_row _ w.heap.size 2 _ _ (0, 0) hX, cell_of_row _ w.heap.size 3 _ _ (0, 0) hX, cell_of_row _ w.heap.size 4 _ _ (0, 0) hX, cell_of_row _ w.heap.size 5 _ _ (0, 0) hX⟩
theorem keepR2 {W w2 w3 : World} {b  i  : Nat} {x0 x1 : Value} (hb : b < W.heap.size) (h : Below w2.heap.size w2 w3)
    (a0 : w2.cell? ⟨b, i, none⟩ = some x0) (a1 : w2.cell? ⟨b, i + 1, none⟩ = some x1) (h4 : Hid (Below W.heap.size W w2)) :
    w3.cell? ⟨b, i, none⟩ = some x0 ∧ w3.cell? ⟨b, i + 1, none⟩ = some x1 ∧ Hid (Below W.heap.size W w3) := by
  have hs := h4.out.size
  have q : ∀ (g k : Nat) (u : Value), g < W.heap.size → w2.cell? ⟨g, k, none⟩ = some u → w3.cell? ⟨g, k, none⟩ = some u := fun g k u hg e => by rw [h.cell (p := ⟨g, k, none⟩) (Nat.lt_of_lt_of_le hg hs)]; exact e
  exact ⟨q _ _ _ hb a0, q _ _ _ hb a1, Lib.hid (below_trans' h4.out h)⟩
theorem keepP2 {W w2 w3 : World} {b b' i i' : Nat} {x0 x1 y0 y1 : Value} (hb : b < W.heap.size) (hb' : b' < W.heap.size) (h : Below w2.heap.size w2 w3)
    (a0 : w2.cell? ⟨b, i, none⟩ = some x0) (a1 : w2.cell? ⟨b, i + 1, none⟩ = some x1) (c0 : w2.cell? ⟨b', i', none⟩ = some y0) (c1 : w2.cell? ⟨b', i' + 1, none⟩ = some y1) (h4 : Hid (Below W.heap.size W w2)) :
    w3.cell? ⟨b, i, none⟩ = some x0 ∧ w3.cell? ⟨b, i + 1, none⟩ = some x1 ∧ w3.cell? ⟨b', i', none⟩ = some y0 ∧ w3.cell? ⟨b', i' + 1, none⟩ = some y1 ∧ Hid (Below W.heap.size W w3) := by
  have hs := h4.out.size
  have q : ∀ (g k : Nat) (u : Value), g < W.heap.size → w2.cell? ⟨g, k, none⟩ = some u → w3.cell? ⟨g, k, none⟩ = some u := fun g k u hg e => by rw [h.cell (p := ⟨g, k, none⟩) (Nat.lt_of_lt_of_le hg hs)]; exact e
  exact ⟨q _ _ _ hb a0, q _ _ _ hb a1, q _ _ _ hb' c0, q _ _ _ hb' c1, Lib.hid (below_trans' h4.out h)⟩
theorem keepR3 {W w2 w3 : World} {b  i  : Nat} {x0 x1 x2 : Value} (hb : b < W.heap.size) (h : Below w2.heap.size w2 w3)
    (a0 : w2.cell? ⟨b, i, none⟩ = some x0) (a1 : w2.cell? ⟨b, i + 1, none⟩ = some x1) (a2 : w2.cell? ⟨b, i + 2, none⟩ = some x2) (h4 : Hid (Below W.heap.size W w2)) :
    w3.cell? ⟨b, i, none⟩ = some x0 ∧ w3.cell? ⟨b, i + 1, none⟩ = some x1 ∧ w3.cell? ⟨b, i + 2, none⟩ = some x2 ∧ Hid (Below W.heap.size W w3) := by
  have hs := h4.out.size
  have q : ∀ (g k : Nat) (u : Value), g < W.heap.size → w2.cell? ⟨g, k, none⟩ = some u → w3.cell? ⟨g, k, none⟩ = some u := fun g k u hg e => by rw [h.cell (p := ⟨g, k, none⟩) (Nat.lt_of_lt_of_le hg hs)]; exact e
  exact ⟨q _ _ _ hb a0, q _ _ _ hb a1, q _ _ _ hb a2, Lib.hid (below_trans' h4.out h)⟩
theorem keepP3 {W w2 w3 : World} {b b' i i' : Nat} {x0 x1 x2 y0 y1 y2 : Value} (hb : b < W.heap.size) (hb' : b' < W.heap.size) (h : Below w2.heap.size w2 w3)
    (a0 : w2.cell? ⟨b, i, none⟩ = some x0) (a1 : w2.cell? ⟨b, i + 1, none⟩ = some x1) (a2 : w2.cell? ⟨b, i + 2, none⟩ = some x2) (c0 : w2.cell? ⟨b', i', none⟩ = some y0) (c1 : w2.cell? ⟨b', i' + 1, none⟩ = some y1) (c2 : w2.cell? ⟨b', i' + 2, none⟩ = some y2) (h4 : Hid (Below W.heap.size W w2)) :
    w3.cell? ⟨b, i, none⟩ = some x0 ∧ w3.cell? ⟨b, i + 1, none⟩ = some x1 ∧ w3.cell? ⟨b, i + 2, none⟩ = some x2 ∧ w3.cell? ⟨b', i', none⟩ = some y0 ∧ w3.cell? ⟨b', i' + 1, none⟩ = some y1 ∧ w3.cell? ⟨b', i' + 2, none⟩ = some y2 ∧ Hid (Below W.heap.size W w3) := by
  have hs := h4.out.size
  have q : ∀ (g k : Nat) (u : Value), g < W.heap.size → w2.cell? ⟨g, k, none⟩ = some u → w3.cell? ⟨g, k, none⟩ = some u := fun g k u hg e => by rw [h.cell (p := ⟨g, k, none⟩) (Nat.lt_of_lt_of_le hg hs)]; exact e
  exact ⟨q _ _ _ hb a0, q _ _ _ hb a1, q _ _ _ hb a2, q _ _ _ hb' c0, q _ _ _ hb' c1, q _ _ _ hb' c2, Lib.hid (below_trans' h4.out h)⟩
theorem keepR4 {W w2 w3 : World} {b  i  : Nat} {x0 x1 x2 x3 : Value} (hb : b < W.heap.size) (h : Below w2.heap.size w2 w3)
    (a0 : w2.cell? ⟨b, i, none⟩ = some x0) (a1 : w2.cell? ⟨b, i + 1, none⟩ = some x1) (a2 : w2.cell? ⟨b, i + 2, none⟩ = some x2) (a3 : w2.cell? ⟨b, i + 3, none⟩ = some x3) (h4 : Hid (Below W.heap.size W w2)) :
    w3.cell? ⟨b, i, none⟩ = some x0 ∧ w3.cell? ⟨b, i + 1, none⟩ = some x1 ∧ w3.cell? ⟨b, i + 2, none⟩ = some x2 ∧ w3.cell? ⟨b, i + 3, none⟩ = some x3 ∧ Hid (Below W.heap.size W w3) := by
  have hs := h4.out.size
  have q : ∀ (g k : Nat) (u : Value), g < W.heap.size → w2.cell? ⟨g, k, none⟩ = some u → w3.cell? ⟨g, k, none⟩ = some u := fun g k u hg e => by rw [h.cell (p := ⟨g, k, none⟩) (Nat.lt_of_lt_of_le hg hs)]; exact e
  exact ⟨q _ _ _ hb a0, q _ _ _ hb a1, q _ _ _ hb a2, q _ _ _ hb a3, Lib.hid (below_trans' h4.out h)⟩
theorem keepP4 {W w2 w3 : World} {b b' i i' : Nat} {x0 x1 x2 x3 y0 y1 y2 y3 : Value} (hb : b < W.heap.size) (hb' : b' < W.heap.size) (h : Below w2.heap.size w2 w3)
    (a0 : w2.cell? ⟨b, i, none⟩ = some x0) (a1 : w2.cell? ⟨b, i + 1, none⟩ = some x1) (a2 : w2.cell? ⟨b, i + 2, none⟩ = some x2) (a3 : w2.cell? ⟨b, i + 3, none⟩ = some x3) (c0 : w2.cell? ⟨b', i', none⟩ = some y0) (c1 : w2.cell? ⟨b', i' + 1, none⟩ = some y1) (c2 : w2.cell? ⟨b', i' + 2, none⟩ = some y2) (c3 : w2.cell? ⟨b', i' + 3, none⟩ = some y3) (h4 : Hid (Below W.heap.size W w2)) :
    w3.cell? ⟨b, i, none⟩ = some x0 ∧ w3.cell? ⟨b, i + 1, none⟩ = some x1 ∧ w3.cell? ⟨b, i + 2, none⟩ = some x2 ∧ w3.cell? ⟨b, i + 3, none⟩ = some x3 ∧ w3.cell? ⟨b', i', none⟩ = some y0 ∧ w3.cell? ⟨b', i' + 1, none⟩ = some y1 ∧ w3.cell? ⟨b', i' + 2, none⟩ = some y2 ∧ w3.cell? ⟨b', i' + 3, none⟩ = some y3 ∧ Hid (Below W.heap.size W w3) := by
  have hs := h4.out.size
  have q : ∀ (g k : Nat) (u : Value), g < W.heap.size → w2.cell? ⟨g, k, none⟩ = some u → w3.cell? ⟨g, k, none⟩ = some u := fun g k u hg e => by rw [h.cell (p := ⟨g, k, none⟩) (Nat.lt_of_lt_of_le hg hs)]; exact e
  exact ⟨q _ _ _ hb a0, q _ _ _ hb a1, q _ _ _ hb a2, q _ _ _ hb a3, q _ _ _ hb' c0, q _ _ _ hb' c1, q _ _ _ hb' c2, q _ _ _ hb' c3, Lib.hid (below_trans' h4.out h)⟩
theorem keepR5 {W w2 w3 : World} {b  i  : Nat} {x0 x1 x2 x3 x4 : Value} (hb : b < W.heap.size) (h : Below w2.heap.size w2 w3)
    (a0 : w2.cell? ⟨b, i, none⟩ = some x0) (a1 : w2.cell? ⟨b, i + 1, none⟩ = some x1) (a2 : w2.cell? ⟨b, i + 2, none⟩ = some x2) (a3 : w2.cell? ⟨b, i + 3, none⟩ = some x3) (a4 : w2.cell? ⟨b, i + 4, none⟩ = some x4) (h4 : Hid (Below W.heap.size W w2)) :
    w3.cell? ⟨b, i, none⟩ = some x0 ∧ w3.cell? ⟨b, i + 1, none⟩ = some x1 ∧ w3.cell? ⟨b, i + 2, none⟩ = some x2 ∧ w3.cell? ⟨b, i + 3, none⟩ = some x3 ∧ w3.cell? ⟨b, i + 4, none⟩ = some x4 ∧ Hid (Below W.heap.size W w3) := by
  have hs := h4.out.size
  have q : ∀ (g k : Nat) (u : Value), g < W.heap.size → w2.cell? ⟨g, k, none⟩ = some u → w3.cell? ⟨g, k, none⟩ = some u := fun g k u hg e => by rw [h.cell (p := ⟨g, k, none⟩) (Nat.lt_of_lt_of_le hg hs)]; exact e
  exact ⟨q _ _ _ hb a0, q _ _ _ hb a1, q _ _ _ hb a2, q _ _ _ hb a3, q _ _ _ hb a4, Lib.hid (below_trans' h4.out h)⟩
theorem keepP5 {W w2 w3 : World} {b b' i i' : Nat} {x0 x1 x2 x3 x4 y0 y1 y2 y3 y4 : Value} (hb : b < W.heap.size) (hb' : b' < W.heap.size) (h : Below w2.heap.size w2 w3)
    (a0 : w2.cell? ⟨b, i, none⟩ = some x0) (a1 : w2.cell? ⟨b, i + 1, none⟩ = some x1) (a2 : w2.cell? ⟨b, i + 2, none⟩ = some x2) (a3 : w2.cell? ⟨b, i + 3, none⟩ = some x3) (a4 : w2.cell? ⟨b, i + 4, none⟩ = some x4) (c0 : w2.cell? ⟨b', i', none⟩ = some y0) (c1 : w2.cell? ⟨b', i' + 1, none⟩ = some y1) (c2 : w2.cell? ⟨b', i' + 2, none⟩ = some y2) (c3 : w2.cell? ⟨b', i' + 3, none⟩ = some y3) (c4 : w2.cell? ⟨b', i' + 4, none⟩ = some y4) (h4 : Hid (Below W.heap.size W w2)) :
    w3.cell? ⟨b, i, none⟩ = some x0 ∧ w3.cell? ⟨b, i + 1, none⟩ = some x1 ∧ w3.cell? ⟨b, i + 2, none⟩ = some x2 ∧ w3.cell? ⟨b, i + 3, none⟩ = some x3 ∧ w3.cell? ⟨b, i + 4, none⟩ = some x4 ∧ w3.cell? ⟨b', i', none⟩ = some y0 ∧ w3.cell? ⟨b', i' + 1, none⟩ = some y1 ∧ w3.cell? ⟨b', i' + 2, none⟩ = some y2 ∧ w3.cell? ⟨b', i' + 3, none⟩ = some y3 ∧ w3.cell? ⟨b', i' + 4, none⟩ = some y4 ∧ Hid (Below W.heap.size W w3) := by
  have hs := h4.out.size
  have q : ∀ (g k : Nat) (u : Value), g < W.heap.size → w2.cell? ⟨g, k, none⟩ = some u → w3.cell? ⟨g, k, none⟩ = some u := fun g k u hg e => by rw [h.cell (p := ⟨g, k, none⟩) (Nat.lt_of_lt_of_le hg hs)]; exact e
  exact ⟨q _ _ _ hb a0, q _ _ _ hb a1, q _ _ _ hb a2, q _ _ _ hb a3, q _ _ _ hb a4, q _ _ _ hb' c0, q _ _ _ hb' c1, q _ _ _ hb' c2, q _ _ _ hb' c3, q _ _ _ hb' c4, Lib.hid (below_trans' h4.out h)⟩
theorem made2 (a b : Value) (n : Nat) : (madeCells #[a, b] (n * 2)).toList = (List.replicate n [a, b]).flatten := by
  induction n with
  | zero => simp [madeCells]
  | succ n ih =>
    rw [List.replicate_succ', List.flatten_append, ← ih]
    unfold madeCells
    rw [Nat.succ_mul, Array.range_succ, Array.range_succ]
    have e1 : (n * 2 + 1) % 2 = 1 := by omega
    simp [e1]
theorem made3 (a b c : Value) (n : Nat) : (madeCells #[a, b, c] (n * 3)).toList = (List.replicate n [a, b, c]).flatten := by
  induction n with
  | zero => simp [madeCells]
  | succ n ih =>
    rw [List.replicate_succ', List.flatten_append, ← ih]
    unfold madeCells
    rw [Nat.succ_mul, Array.range_succ, Array.range_succ, Array.range_succ]
    have e1 : (n * 3 + 1) % 3 = 1 := by omega
    have e2 : (n * 3 + 2) % 3 = 2 := by omega
    simp [e1, e2]
theorem made4 (a b c d : Value) (n : Nat) : (madeCells #[a, b, c, d] (n * 4)).toList = (List.replicate n [a, b, c, d]).flatten := by
  induction n with
  | zero => simp [madeCells]
  | succ n ih =>
    rw [List.replicate_succ', List.flatten_append, ← ih]
    unfold madeCells
    rw [Nat.succ_mul, Array.range_succ, Array.range_succ, Array.range_succ, Array.range_succ]
    have e1 : (n * 4 + 1) % 4 = 1 := by omega
    have e2 : (n * 4 + 2) % 4 = 2 := by omega
    have e3 : (n * 4 + 3) % 4 = 3 := by omega
    simp [e1, e2, e3]
theorem made5 (a b c d e : Value) (n : Nat) : (madeCells #[a, b, c, d, e] (n * 5)).toList = (List.replicate n [a, b, c, d, e]).flatten := by
  induction n with
  | zero => simp [madeCells]
  | succ n ih =>
    rw [List.replicate_succ', List.flatten_append, ← ih]
    unfold madeCells
    rw [Nat.succ_mul, Array.range_succ, Array.range_succ, Array.range_succ, Array.range_succ, Array.range_succ]
    have e1 : (n * 5 + 1) % 5 = 1 := by omega
    have e2 : (n * 5 + 2) % 5 = 2 := by omega
    have e3 : (n * 5 + 3) % 5 = 3 := by omega
    have e4 : (n * 5 + 4) % 5 = 4 := by omega
    simp [e1, e2, e3, e4]
/-- a Handle as a value -/
def aggHn (i : Hn) : Value := .agg #[.string i.name, .string i.host]
def encHn (i : Hn) : List Value := [.string i.name, .string i.host]
theorem encHn_len (i : Hn) : (encHn i).length = 2 := rfl
theorem encHn_one (i : Hn) (u : Value) (h : u ∈ encHn i) : u.oneCell' = true := by
  simp [encHn] at h
  rcases h with rfl | rfl <;> rfl
/-- what comes in: any Handle -/
def InHn (i : Hn) : Prop := i.name.size ≤ maxLen ∧ i.host.size ≤ maxLen
def Sz1Hn (i : Hn) : Prop := i.name.size ≤ 1048576 ∧ i.host.size ≤ 1048576
def FitHn (i : Hn) : Prop := i.name.size ≤ 100000000 ∧ i.host.size ≤ 100000000
/-- a short one, as the draws make them -/
def ShHn (i : Hn) : Prop := ShS i.name ∧ ShS i.host
theorem fitHn_sz {i : Hn} (h : Sz1Hn i) : FitHn i := by
  unfold Sz1Hn at h; unfold FitHn; omega
theorem fitHn_sh {i : Hn} (h : ShHn i) : FitHn i := by
  simp only [ShHn, FitHn, ShS] at h ⊢
  omega
theorem hn_bytes (a b : ByteArray) : (⟨#[64]⟩ ++ a ++ ⟨#[64]⟩ ++ b : ByteArray) = bs (hnT1 ⟨a, b⟩) := by
  apply ByteArray.ext; apply Array.toList_inj.1
  rw [bs_data]
  simp [hnT1]
/-- a handle and whether there is one -/
def GotHR (s : List UInt8) (w : World) (e : Ending) (w' : World) : Prop := ∃ (a b : ByteArray) (z : Bool), hnR s = (⟨a, b⟩, z) ∧ e = .returned (.tuple #[.agg #[.string a, .string b], .bool z]) ∧ Below w.heap.size w w'
theorem hnR_beg {s : List UInt8} (h : decide (s.take 1 = [64]) = false) : hnR s = (Hn.zero, false) := hnR_no (fun x b q => by have h := of_decide_eq_false h; exact h (by subst q; rfl))
theorem hnR_far {s : ByteArray} (p : ∀ i (hi : i < s.size), 1 ≤ i → s[i] ≠ 64) : hnR s.data.toList = (Hn.zero, false) :=
  hnR_no (hn_none (fun i hi h => p i (by rw [← blen]; exact hi) h))
/-- the handle that the first @ behind the first byte parts -/
def hnCut (s : ByteArray) (n : Nat) : Hn := ⟨s.extract 1 n, s.extract (n + 1) s.size⟩
theorem hnCut_name (s : ByteArray) (n : Nat) : (hnCut s n).name.data.toList = (s.data.toList.drop 1).take (n - 1) := by simp [hnCut]
theorem hnCut_host (s : ByteArray) (n : Nat) : (hnCut s n).host.data.toList = s.data.toList.drop (n + 1) := by
  have h := List.take_of_length_le (l := s.data.toList.drop (n + 1)) (i := s.size - (n + 1)) (by rw [List.length_drop, blen]; omega)
  simpa [hnCut] using h
theorem hnCut_only {s : ByteArray} {n : Nat} (h1 : 1 ≤ n) (hn : n < s.size) (p : ∀ i (hi : i < s.size), 1 ≤ i → i < n → s[i] ≠ 64) (e : s[n] = 64) {x : Hn} (b : hnB x = true) (q : hnT1 x = s.data.toList) : x = hnCut s n := by
  obtain ⟨a1, a2⟩ := hn_at (s := s.data.toList) h1 (by rw [blen]; exact hn) (fun i hi h2 h3 => p i (by rw [← blen]; exact hi) h2 h3) e b q
  obtain ⟨x1, x2⟩ := x
  have e1 : x1 = (hnCut s n).name := by apply ByteArray.ext; apply Array.toList_inj.1; rw [hnCut_name]; exact a1
  have e2 : x2 = (hnCut s n).host := by apply ByteArray.ext; apply Array.toList_inj.1; rw [hnCut_host]; exact a2
  rw [e1, e2]
theorem hnCut_text {s : ByteArray} {n : Nat} (h1 : 1 ≤ n) (hn : n < s.size) (e : s[n] = 64) (h0 : s.data.toList.take 1 = [64]) : hnT1 (hnCut s n) = s.data.toList := by
  unfold hnT1
  rw [hnCut_name, hnCut_host]
  have hl : s.data.toList.length = s.size := blen s
  obtain ⟨l, hl2⟩ : ∃ l, s.data.toList = l := ⟨_, rfl⟩
  have e' : s.data.toList[n]'(by rw [hl]; exact hn) = 64 := e
  rw [hl2] at h0 hl ⊢
  have e2 : l[n]'(by omega) = 64 := by subst hl2; exact e'
  cases l with
  | nil => simp at h0
  | cons c l =>
    have hc : c = 64 := by simpa using h0
    subst hc
    obtain ⟨k, rfl⟩ : ∃ k, n = k + 1 := ⟨n - 1, by omega⟩
    simp only [List.drop_succ_cons, List.drop_zero, Nat.add_sub_cancel]
    simp only [List.getElem_cons_succ] at e2
    have hk : k < l.length := by simp at hl; omega
    have : l.drop k = 64 :: l.drop (k + 1) := by rw [List.drop_eq_getElem_cons hk, e2]
    rw [← this, List.take_append_drop]
theorem hnR_cutB {s : ByteArray} {n : Nat} (h1 : 1 ≤ n) (hn : n < s.size) (p : ∀ i (hi : i < s.size), 1 ≤ i → i < n → s[i] ≠ 64) (e : s[n] = 64) (hb : hnB (hnCut s n) = false) : hnR s.data.toList = (Hn.zero, false) :=
  hnR_no (fun x b q => by rw [hnCut_only h1 hn p e b q, hb] at b; cases b)
theorem hnR_cutT {s : ByteArray} {n : Nat} (h1 : 1 ≤ n) (hn : n < s.size) (p : ∀ i (hi : i < s.size), 1 ≤ i → i < n → s[i] ≠ 64) (e : s[n] = 64) (hb : hnT1 (hnCut s n) ≠ s.data.toList) : hnR s.data.toList = (Hn.zero, false) :=
  hnR_no (fun x b q => by rw [hnCut_only h1 hn p e b q] at q; exact hb q)
theorem hnR_cutR {s : ByteArray} {n : Nat} (hb : hnB (hnCut s n) = true) (q : hnT1 (hnCut s n) = s.data.toList) : hnR s.data.toList = (hnCut s n, true) := hnR_of hb q
theorem fitHn_of {a b : ByteArray} (h : hnB ⟨a, b⟩ = true) : FitHn ⟨a, b⟩ := by
  have h1 := (word_len (hnB_of h).1).2
  have h2 := (word_len (hnB_of h).2).2
  rw [blen] at h1 h2
  exact ⟨by show a.size ≤ _; simp only at h1; omega, by show b.size ≤ _; simp only at h2; omega⟩
theorem less_irr (l : List UInt8) : Op.bytesLess l l = false := by
  rcases q : Op.bytesLess l l with _ | _
  · rfl
  · exact absurd rfl (less_asymm q).2
theorem hnL_same {x y : Hn} (h : x.host = y.host) : hnL x y = Op.bytesLess x.name.toList y.name.toList := by
  unfold hnL; rw [h, less_irr, ByteArray.toList_eq, ByteArray.toList_eq]; simp
theorem hnL_other {x y : Hn} (h : ¬ x.host = y.host) : hnL x y = Op.bytesLess x.host.toList y.host.toList := by
  unfold hnL; rw [ByteArray.toList_eq, ByteArray.toList_eq]; simp [h]
theorem less_total {a b : List UInt8} (h : a ≠ b) (h' : Op.bytesLess a b = false) : Op.bytesLess b a = true := by
  rw [bytesLess_eq] at h' ⊢
  have h' := of_decide_eq_false h'
  refine decide_eq_true ?_
  rcases List.le_total a b with k | k
  · rcases List.le_iff_lt_or_eq.1 k with q | q
    · exact absurd q h'
    · exact absurd q h
  · rcases List.le_iff_lt_or_eq.1 k with q | q
    · exact q
    · exact absurd q.symm h
theorem hnL_self (x : Hn) : hnL x x = false := by rw [hnL_same rfl, less_irr]
theorem data_ne {a b : ByteArray} (h : ¬ a = b) : a.toList ≠ b.toList := fun e => h (by apply ByteArray.ext; apply Array.toList_inj.1; rw [ByteArray.toList_eq, ByteArray.toList_eq] at e; exact e)
theorem hnL_one {x y : Hn} (h : x ≠ y) : (hnL x y = true ∧ hnL y x = false) ∨ (hnL x y = false ∧ hnL y x = true) := by
  by_cases e : x.host = y.host
  · have hn : ¬ x.name = y.name := fun q => h (by obtain ⟨a, b⟩ := x; obtain ⟨c, d⟩ := y; simp only at e q; subst e; subst q; rfl)
    rw [hnL_same e, hnL_same e.symm]
    rcases q : Op.bytesLess x.name.toList y.name.toList with _ | _
    · exact .inr ⟨rfl, less_total (data_ne hn) q⟩
    · exact .inl ⟨rfl, (less_asymm q).1⟩
  · rw [hnL_other e, hnL_other (fun k => e k.symm)]
    rcases q : Op.bytesLess x.host.toList y.host.toList with _ | _
    · exact .inr ⟨rfl, less_total (data_ne e) q⟩
    · exact .inl ⟨rfl, (less_asymm q).1⟩
end Go.Proofs.Ythniiknhbhoncaa
