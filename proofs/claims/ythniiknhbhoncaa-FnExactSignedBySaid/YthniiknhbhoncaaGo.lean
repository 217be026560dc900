/-
  The verifier's own text: ItemS ItemTS RItemS LawI ZeroI.
-/
import Derived.Test.YthniiknhbhoncaaRows
import Derived.Test.YthniiknhbhoncaaGn
import Derived.Test.YthniiknhbhoncaaGi
import Derived.Test.YthniiknhbhoncaaGc
import Derived.Test.YthniiknhbhoncaaGf
import Derived.Test.YthniiknhbhoncaaGb
import Derived.Deep.RegionHeld3
import Derived.Test.YthniiknhbhoncaaGk
import Derived.Test.YthniiknhbhoncaaGg
import Derived.WalkKit
import Derived.ProofKit
import Derived.Below
import Derived.Lib.Hide
import Derived.Outline
import Derived.BigQuiet
import Derived.Deep.QuietTactic
import Derived.Deep.Draws
import Derived.Laws.OwnMore
import Derived.Laws.Rows
import Derived.WalkSpells
import Derived.Deep.RegionWith
namespace Go.Proofs.Ythniiknhbhoncaa
open Go.RowKit
set_option linter.unusedVariables false
/-- an item as a value -/
def aggI (i : It) : Value := .agg #[.string i.key, .string i.title, .string i.body, .int .i64 i.day]
def FitI (i : It) : Prop := i.key.size ≤ 100000000 ∧ i.title.size ≤ 100000000 ∧ i.body.size ≤ 100000000
theorem fit_max {n : Nat} (h : n ≤ 100000000) : n ≤ maxLen := by unfold maxLen; omega
theorem fitI_of {i : It} (h : itB i = true) : FitI i := by
  obtain ⟨a, b, _, d, _⟩ := itB_of h
  have h1 := (word_len a).2
  have h2 := textB_len b
  have h3 := textB_len d
  rw [blen] at h1 h2 h3
  exact ⟨by omega, by omega, by omega⟩
theorem keep4 {W w2 w3 : World} {g : Nat} {v0 v1 v2 v3 : Value} (hb : Below w2.heap.size w2 w3) (h0 : w2.cell? ⟨g, 0, none⟩ = some v0) (h1 : w2.cell? ⟨g, 1, none⟩ = some v1) (h2 : w2.cell? ⟨g, 2, none⟩ = some v2) (h3 : w2.cell? ⟨g, 3, none⟩ = some v3) (h : Hid (g < w2.heap.size ∧ Below W.heap.size W w2)) :
    w3.cell? ⟨g, 0, none⟩ = some v0 ∧ w3.cell? ⟨g, 1, none⟩ = some v1 ∧ w3.cell? ⟨g, 2, none⟩ = some v2 ∧ w3.cell? ⟨g, 3, none⟩ = some v3 ∧ Hid (g < w3.heap.size ∧ Below W.heap.size W w3) :=
  ⟨by rw [hb.cell (p := ⟨g, 0, none⟩) h.out.1]; exact h0, by rw [hb.cell (p := ⟨g, 1, none⟩) h.out.1]; exact h1, by rw [hb.cell (p := ⟨g, 2, none⟩) h.out.1]; exact h2, by rw [hb.cell (p := ⟨g, 3, none⟩) h.out.1]; exact h3, Lib.hid ⟨Nat.lt_of_lt_of_le h.out.1 hb.size, below_trans' h.out.2 hb⟩⟩
theorem fitE_of' {L : EL} (h : elB L = true) : FitE L := by
  intro e m
  have := okE_of (elB_mem h e m)
  have h1 := (word_len this.1).2
  have h2 := textB_len this.2
  rw [blen] at h1 h2
  omega
/-- an item and whether there is one, in full -/
def GotIR (s : List UInt8) (w : World) (e : Ending) (w' : World) : Prop := ∃ (L : EL) (ok : Bool) (k t b : ByteArray) (d : Int) (z : Bool), RdE s L ok ∧ itR L = (⟨k, t, b, d⟩, z) ∧ e = .returned (.tuple #[.agg #[.string k, .string t, .string b, .int .i64 d], .bool z]) ∧ Below w.heap.size w w'
def nmJ (j : Nat) : ByteArray := if j = 0 then kKey else if j = 1 then kTitle else if j = 2 then kDay else kBody
def chkJ (L : EL) (j : Nat) : Bool := if j = 3 then decide (cntE L (nmJ j) ≤ 1) else decide (cntE L (nmJ j) = 1)
def okJ (ok : Bool) (L : EL) : Nat → Bool
  | 0 => ok
  | j + 1 => okJ ok L j && chkJ L j
theorem okJ_four (ok : Bool) (L : EL) : okJ ok L 4 = (ok && cntOk L) := by
  simp [okJ, chkJ, nmJ, cntOk, Bool.and_assoc]
theorem okJ_bad {ok : Bool} {L : EL} {j : Nat} (h : chkJ L j = false) : okJ ok L (j + 1) = false := by simp [okJ, h]
theorem okJ_good {ok : Bool} {L : EL} {j : Nat} (h : chkJ L j = true) : okJ ok L (j + 1) = okJ ok L j := by simp [okJ, h]
theorem chk_many {L : EL} {j : Nat} (h : 1 < cntE L (nmJ j)) : chkJ L j = false := by unfold chkJ; split <;> simp <;> omega
theorem chk_none {L : EL} {j : Nat} (h : cntE L (nmJ j) = 0) (hj : j < 3) : chkJ L j = false := by
  unfold chkJ; rw [if_neg (by omega), h]; rfl
theorem chk_one {L : EL} {j : Nat} (h : cntE L (nmJ j) = 1) : chkJ L j = true := by unfold chkJ; rw [h]; split <;> rfl
theorem chk_last {L : EL} {j : Nat} (h : cntE L (nmJ j) = 0) (hj : ¬ j < 3) (h4 : j < 4) : chkJ L j = true := by
  unfold chkJ; rw [if_pos (by omega), h]; rfl
theorem nmJ_cells (w : World) (j : Nat) (hj : j < 4) : (w.alloc (.cells #[.string ⟨#[107, 101, 121]⟩, .string ⟨#[116, 105, 116, 108, 101]⟩, .string ⟨#[100, 97, 121]⟩, .string ⟨#[98, 111, 100, 121]⟩] 9)).cell? ⟨w.heap.size, j, none⟩ = some (.string (nmJ j)) := by
  rw [World.cell?_alloc_new]
  obtain rfl | rfl | rfl | rfl : j = 0 ∨ j = 1 ∨ j = 2 ∨ j = 3 := by omega
  all_goals rfl
theorem zero_ret {L : EL} {ok : Bool} {s : List UInt8} (hR : RdE s L ok) (h : okJ ok L 4 = false) : itR L = (It.zero, false) := by
  rw [okJ_four] at h
  rcases ok with _ | _
  · rcases hR with ⟨q, _⟩ | ⟨_, q, _⟩
    · cases q
    · rw [q]; exact itR_nil
  · exact itR_cnt (by simpa using h)
def Sz1I (k t b : ByteArray) : Prop := k.size ≤ 1048576 ∧ t.size ≤ 1048576 ∧ b.size ≤ 1048576
theorem codeArg_below {w w' : World} {A : Option Addr} {n c : Nat} (h : CodeArg w A n c) (hb : Below w.heap.size w w') : CodeArg w' A n c := by
  obtain ⟨h1, h2, h3⟩ := h
  refine ⟨h1, h2, fun hn => ?_⟩
  obtain ⟨ad, rfl, hlt, hc⟩ := h3 hn
  refine ⟨ad, rfl, Nat.lt_of_lt_of_le hlt hb.size, fun i hi => ?_⟩
  obtain ⟨z, a, b⟩ := hc i hi
  exact ⟨z, (hb.cell (p := ad.add i) (by rw [add_block]; exact hlt)).trans a, b⟩
theorem rd_below {W w w' : World} {g m : Nat} (h : Rd W w g m) (hb : Below w.heap.size w w') : Rd W w' g m := by
  obtain ⟨A, n, c, p, hh, hp, hc⟩ := h.hd
  exact ⟨h.bel.trans (hb.mono h.bel.size), h.lo, A, n, c, p, (hb.block g h.lt).trans hh, hp, hc⟩
end Go.Proofs.Ythniiknhbhoncaa
