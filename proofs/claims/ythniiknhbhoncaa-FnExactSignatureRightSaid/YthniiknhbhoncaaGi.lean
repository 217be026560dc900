/-
  The verifier's own text: ElemS ElemTS ElemVI PlaceI ElemTI OwnE.
-/
import Derived.Test.YthniiknhbhoncaaRows
import Derived.Test.YthniiknhbhoncaaGa
import Derived.Test.YthniiknhbhoncaaGb
import Derived.Test.YthniiknhbhoncaaGc
import Derived.Deep.RegionHeld3
import Derived.WalkKit
import Derived.ProofKit
import Derived.Below
import Derived.Lib.Hide
import Derived.Outline
import Derived.BigQuiet
import Derived.Deep.QuietTactic
import Derived.Deep.Draws
import Derived.Laws.OwnMore
import Derived.Laws.Rows
import Derived.WalkSpells
import Derived.Deep.RegionWith
namespace Go.Proofs.Ythniiknhbhoncaa
open Go.RowKit
set_option linter.unusedVariables false
/-- the cells of an element -/
def encE (e : ByteArray × ByteArray) : List Value := [.string e.1, .string e.2]
theorem encE_len (e : ByteArray × ByteArray) : (encE e).length = 2 := rfl
/-- strings that are no longer than a slice may be -/
def FitE (L : EL) : Prop := ∀ e ∈ L, e.1.size ≤ 100000000 ∧ e.2.size ≤ 100000000
theorem rdE_cells {w : World} {b o : Nat} {L : EL} (h : ∀ j u, (L.flatMap encE)[j]? = some u → w.cell? ⟨b, o + j, none⟩ = some u) {k : Nat} (hk : k < L.length) :
    w.cell? ⟨b, o + k * 2, none⟩ = some (.string L[k].1) ∧ w.cell? ⟨b, o + k * 2 + 1, none⟩ = some (.string L[k].2) := by
  constructor
  · have := flat_get encE_len L k hk 0 (by omega)
    exact h (k * 2) (.string L[k].1) this
  · have := flat_get encE_len L k hk 1 (by omega)
    have h2 := h (k * 2 + 1) (.string L[k].2) this
    rw [← Nat.add_assoc] at h2; exact h2
def elP (l : List UInt8) (e : ByteArray × ByteArray) : ByteArray := bs l ++ ⟨#[60]⟩ ++ e.1 ++ ⟨#[62]⟩ ++ bs (escT e.2.data.toList) ++ ⟨#[60, 47]⟩ ++ e.1 ++ ⟨#[62]⟩
theorem el_cat (l : List UInt8) (e : ByteArray × ByteArray) : elP l e = bs (l ++ elT1 e) := by
  apply ByteArray.ext; apply Array.toList_inj.1
  simp [elP, bs, elT1]
/-- no sum of the lengths is too great -/
theorem el_sums (l : List UInt8) (n t : ByteArray) (hl : l.length ≤ 100000) (hn : n.size ≤ 100000000) :
    (bs l).size + (⟨#[60]⟩ : ByteArray).size ≤ 9223372036854775807 ∧ (bs l ++ ⟨#[60]⟩).size + n.size ≤ 9223372036854775807 ∧ (bs l ++ ⟨#[60]⟩ ++ n).size + (⟨#[62]⟩ : ByteArray).size ≤ 9223372036854775807 ∧
    (bs l ++ ⟨#[60]⟩ ++ n ++ ⟨#[62]⟩).size + (bs (escT t.data.toList)).size ≤ 9223372036854775807 ∧ (bs l ++ ⟨#[60]⟩ ++ n ++ ⟨#[62]⟩ ++ bs (escT t.data.toList)).size + (⟨#[60, 47]⟩ : ByteArray).size ≤ 9223372036854775807 ∧
    (bs l ++ ⟨#[60]⟩ ++ n ++ ⟨#[62]⟩ ++ bs (escT t.data.toList) ++ ⟨#[60, 47]⟩).size + n.size ≤ 9223372036854775807 ∧ (bs l ++ ⟨#[60]⟩ ++ n ++ ⟨#[62]⟩ ++ bs (escT t.data.toList) ++ ⟨#[60, 47]⟩ ++ n).size + (⟨#[62]⟩ : ByteArray).size ≤ 9223372036854775807 := by
  have h1 : (bs l).size = l.length := rfl
  have h2 : (⟨#[60]⟩ : ByteArray).size = 1 := rfl
  have h3 : (⟨#[62]⟩ : ByteArray).size = 1 := rfl
  have h4 : (⟨#[60, 47]⟩ : ByteArray).size = 2 := rfl
  have h5 : (bs (escT t.data.toList)).size ≤ 480 := by rw [bs_size]; exact escT_len _
  simp only [ByteArray.size_append]
  omega
/-- a bool, and memory that grew -/
def GotB (b : Bool) (w : World) (e : Ending) (w' : World) : Prop := e = .returned (.bool b) ∧ Below w.heap.size w w'
def PlaceOf (s : ByteArray) (p : Nat) (c : UInt8) (n : Nat) : Prop := p ≤ n ∧ n ≤ s.size ∧ (∀ i (hi : i < s.size), p ≤ i → i < n → s[i] ≠ c) ∧ (n = s.size ∨ ∃ h : n < s.size, s[n] = c)
def GotPlace (s : ByteArray) (p : Nat) (c : UInt8) (w : World) (e : Ending) (w' : World) : Prop := ∃ n : Nat, PlaceOf s p c n ∧ e = .returned (.int .i64 n) ∧ w = w'
theorem place_next {s : ByteArray} {p k : Nat} {c : UInt8} (h : s[k]! ≠ c) (F : ∀ i (hi : i < s.size), p ≤ i → i < k → s[i] ≠ c) : ∀ i (hi : i < s.size), p ≤ i → i < k + 1 → s[i] ≠ c := fun i hi a b => by
  by_cases q : i = k
  · subst q; rwa [getElem!_pos s i hi] at h
  · exact F i hi a (by omega)
def elQ (l : List UInt8) (e : ByteArray × ByteArray) : ByteArray := bs l ++ (⟨#[60]⟩ ++ e.1 ++ ⟨#[62]⟩) ++ bs (escT e.2.data.toList) ++ (⟨#[60, 47]⟩ ++ e.1 ++ ⟨#[62]⟩)
theorem elQ_cat (l : List UInt8) (e : ByteArray × ByteArray) : elQ l e = bs (l ++ elT1 e) := by
  apply ByteArray.ext; apply Array.toList_inj.1
  simp [elQ, bs, elT1]
theorem elQ_sums (l : List UInt8) (n t : ByteArray) (hl : l.length ≤ 100000) (hn : n.size ≤ 100000000) :
    (bs l).size + (⟨#[60]⟩ ++ n ++ ⟨#[62]⟩ : ByteArray).size ≤ 9223372036854775807 ∧ (bs l ++ (⟨#[60]⟩ ++ n ++ ⟨#[62]⟩)).size + (bs (escT t.data.toList)).size ≤ 9223372036854775807 ∧
    (bs l ++ (⟨#[60]⟩ ++ n ++ ⟨#[62]⟩) ++ bs (escT t.data.toList)).size + (⟨#[60, 47]⟩ ++ n ++ ⟨#[62]⟩ : ByteArray).size ≤ 9223372036854775807 := by
  have h1 : (bs l).size = l.length := rfl
  have h2 : (⟨#[60]⟩ : ByteArray).size = 1 := rfl
  have h3 : (⟨#[62]⟩ : ByteArray).size = 1 := rfl
  have h4 : (⟨#[60, 47]⟩ : ByteArray).size = 2 := rfl
  have h5 : (bs (escT t.data.toList)).size ≤ 480 := by rw [bs_size]; exact escT_len _
  simp only [ByteArray.size_append]
  omega
theorem keepE {W w2 w3 : World} {g : Nat} {nm tx : ByteArray} (h0 : w2.cell? ⟨g, 0, none⟩ = some (.string nm)) (h1 : w2.cell? ⟨g, 1, none⟩ = some (.string tx)) (h : Hid (g < w2.heap.size ∧ Below W.heap.size W w2)) (hb : Below w2.heap.size w2 w3) :
    w3.cell? ⟨g, 0, none⟩ = some (.string nm) ∧ w3.cell? ⟨g, 1, none⟩ = some (.string tx) ∧ Hid (g < w3.heap.size ∧ Below W.heap.size W w3) :=
  ⟨by rw [hb.cell (p := ⟨g, 0, none⟩) h.out.1]; exact h0, by rw [hb.cell (p := ⟨g, 1, none⟩) h.out.1]; exact h1, Lib.hid ⟨Nat.lt_of_lt_of_le h.out.1 hb.size, below_trans' h.out.2 hb⟩⟩
theorem startE {W w : World} {nm tx : ByteArray} {t : TypeId} (hb : Below W.heap.size W w) :
    (w.alloc (.cells #[.string nm, .string tx] t)).drew.cell? ⟨w.heap.size, 0, none⟩ = some (.string nm) ∧ (w.alloc (.cells #[.string nm, .string tx] t)).drew.cell? ⟨w.heap.size, 1, none⟩ = some (.string tx) ∧
    Hid (w.heap.size < (w.alloc (.cells #[.string nm, .string tx] t)).drew.heap.size ∧ Below W.heap.size W (w.alloc (.cells #[.string nm, .string tx] t)).drew) :=
  ⟨World.cell?_alloc_new w _ _ 0, World.cell?_alloc_new w _ _ 1, Lib.hid ⟨by show _ < (w.alloc _).heap.size; simp, Below.drew (hb.alloc hb.size _)⟩⟩
theorem encE_one (e : ByteArray × ByteArray) (u : Value) (h : u ∈ encE e) : u.oneCell' = true := by
  simp [encE] at h
  rcases h with rfl | rfl <;> rfl
theorem Below.drawn {B : Nat} {a w : World} (h : Below B a w) (n : Nat) : Below B a (w.drewN n) := ⟨h.os, h.tape, h.output, h.size, h.block⟩
theorem fitE_of {L : EL} (h : elB L = true) : FitE L := by
  intro e m
  have := okE_of (elB_mem h e m)
  have h1 := (word_len this.1).2
  have h2 := textB_len this.2
  rw [blen] at h1 h2
  omega
end Go.Proofs.Ythniiknhbhoncaa
