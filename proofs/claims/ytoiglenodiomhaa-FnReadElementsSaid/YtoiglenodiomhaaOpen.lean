/-
  The verifier's own text: Open.
-/
import Derived.Test.YtoiglenodiomhaaRows
import Derived.Test.YtoiglenodiomhaaRd
import Derived.WalkKit
import Derived.ProofKit
import Derived.Below
import Derived.Lib.Hide
import Derived.Outline
import Derived.BigQuiet
import Derived.Deep.QuietTactic
import Derived.Deep.Draws
import Derived.Laws.OwnMore
import Derived.Laws.Rows
import Derived.WalkSpells
import Derived.Deep.RegionWith
namespace Go.Proofs.Ytoiglenodiomhaa
open Go.RowKit
set_option linter.unusedVariables false
def CodeArg (w : World) (A : Option Addr) (n c : Nat) : Prop :=
  n ≤ c ∧ c ≤ maxLen ∧ (0 < n → ∃ ad, A = some ad ∧ ad.block < w.heap.size ∧ ∀ i, i < n → ∃ z : Int, w.cell? (ad.add i) = some (.int .u8 z) ∧ 0 ≤ z ∧ z ≤ 255)
theorem codeArg_of {w : World} {A : Option Addr} {n c : Nat} {zs : List Int}
    (h : (A = none ∧ n = 0 ∧ c = 0 ∧ zs = []) ∨ ∃ x, A = some x ∧ n ≤ c ∧ c ≤ maxLen ∧ zs.length = c ∧ (∀ i, i < zs.length → w.cell? (x.add i) = some (.int .u8 (zs.getD i 0))) ∧ ∀ n ∈ zs, (Lit.int .u8 n).wf = true) : CodeArg w A n c := by
  rcases h with ⟨rfl, rfl, rfl, rfl⟩ | ⟨x, rfl, h1, h2, h3, h4, h5⟩
  · exact ⟨Nat.le_refl _, by simp, fun h => by omega⟩
  · refine ⟨h1, h2, fun hn => ⟨x, rfl, ?_, fun i hi => ⟨zs.getD i 0, h4 i (by omega), ?_⟩⟩⟩
    · have hc := h4 0 (by omega)
      have := block_lt_of_cell hc
      rw [add_block] at this; exact this
    · have hm : zs.getD i 0 ∈ zs := by rw [List.getD_eq_getElem?_getD, List.getElem?_eq_getElem (by omega)]; exact List.getElem_mem _
      have := h5 _ hm
      simpa [Lit.wf, IntKind.min, IntKind.max, IntKind.signed, IntKind.bits] using this
def Opened (w : World) (e : Ending) (w' : World) : Prop :=
  e = .returned (.pointer (some ⟨w.heap.size, 0, none⟩)) ∧ Rd w w' w.heap.size 0
theorem rd_new (w : World) (A : Option Addr) (n c : Nat) (hc : Code8 w w.heap.size A n) : Rd w (w.alloc (.cells #[.slice A n c, .int .i64 0] 63)) w.heap.size 0 :=
  ⟨(Below.refl _ _).alloc (Nat.le_refl _) _, Nat.le_refl _, A, n, c, 0, heap_alloc_new w _, Nat.le_refl _, hc⟩
theorem open_any (w : World) (A : Option Addr) (n c : Nat) (h : CodeArg w A n c) :
    Calls Try.prog 31 #[.slice A n c] w (Opened w) := by
  obtain ⟨h1, h2, h3⟩ := h
  unfold maxLen at h2
  by_cases hn : 2000 < n
  · obtain ⟨ad, rfl, hb, hc⟩ := h3 (by omega)
    have hrd := Lib.hid (rd_new w (some ad) 2000 c ⟨by omega, fun _ => ⟨ad, rfl, hb, fun i hi => hc i (by omega)⟩⟩)
    clear h3
    go_enter Try.func31, Try.ntmps31
    go_wp2
    go_ret
    exact ⟨rfl, hrd.out⟩
  · have hrd := Lib.hid (rd_new w A n c ⟨by omega, h3⟩)
    go_enter Try.func31, Try.ntmps31
    go_wp2
    go_ret
    exact ⟨rfl, hrd.out⟩
def DrewStr (W w : World) (g m B : Nat) (e : Ending) (w' : World) : Prop := ∃ s : ByteArray, s.size ≤ B ∧ e = .returned (.string s) ∧ Rd W w' g m ∧ w.grownBy w' (some g)
def DrawnStr (w : World) (B : Nat) (e : Ending) (w' : World) : Prop := ∃ s : ByteArray, s.size ≤ B ∧ e = .returned (.string s) ∧ Below w.heap.size w w'
def DrawnInt (w : World) (e : Ending) (w' : World) : Prop := ∃ v : Int, e = .returned (.int .i64 v) ∧ Below w.heap.size w w'
def ShortStr (B : Nat) (w : World) (e : Ending) (w' : World) : Prop := ∃ s : ByteArray, s.size ≤ B ∧ e = .returned (.string s) ∧ w = w'
theorem below_trans0 {a b c : World} (h : Below a.heap.size a b) (k : Below b.heap.size b c) : Below a.heap.size a c := h.trans (k.mono h.size)
end Go.Proofs.Ytoiglenodiomhaa
