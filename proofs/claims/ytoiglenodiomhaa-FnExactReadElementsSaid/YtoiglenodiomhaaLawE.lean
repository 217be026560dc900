/-
  The verifier's own text: LawE.
-/
import Derived.Test.YtoiglenodiomhaaRows
import Derived.Test.YtoiglenodiomhaaOwnE
import Derived.Test.YtoiglenodiomhaaMarkL
import Derived.Deep.RegionHeld3
import Derived.WalkKit
import Derived.ProofKit
import Derived.Below
import Derived.Lib.Hide
import Derived.Outline
import Derived.BigQuiet
import Derived.Deep.QuietTactic
import Derived.Deep.Draws
import Derived.Laws.OwnMore
import Derived.Laws.Rows
import Derived.WalkSpells
import Derived.Deep.RegionWith
namespace Go.Proofs.Ytoiglenodiomhaa
open Go.RowKit
set_option linter.unusedVariables false
theorem below_ext {B : Nat} {a b : World} (h : Below B a b) (hB : B ≤ a.heap.size) : B ≤ b.heap.size := Nat.le_trans hB h.size
theorem toE_any (n t : ByteArray) (w : World) :
    Calls Try.prog 45 #[.agg #[.string n, .string t]] w fun e w' => e = .returned (.agg #[.string n, .string t]) ∧ Below w.heap.size w w' := by
  go_enter Try.func45, Try.ntmps45
  go_wp2
  refine bodyPost_ret (v := .agg #[.string n, .string t]) (by simp [results, Try.results45, go_sem]) rfl ⟨rfl, ?_⟩
  repeat (first | exact Below.refl _ _ | refine Below.alloc ?_ (by simp <;> omega) _ | refine Below.setCell ?_ (by simp <;> omega) _)
theorem eqE_any (n t : ByteArray) (w : World) :
    Calls Try.prog 46 #[.agg #[.string n, .string t], .agg #[.string n, .string t]] w fun e w' => e = .returned (.bool true) ∧ Below w.heap.size w w' := by
  have q1 := str_same (a := n) (b := n) rfl
  have q2 := str_same (a := t) (b := t) rfl
  go_enter Try.func46, Try.ntmps46
  go_wp2
  go_ret
  refine ⟨rfl, ?_⟩
  repeat (first | exact Below.refl _ _ | refine Below.alloc ?_ (by simp <;> omega) _ | refine Below.setCell ?_ (by simp <;> omega) _)
/-- a size that is left, and memory that grew -/
def GotSz (P : Prop) (left : Int) (w : World) (e : Ending) (w' : World) : Prop := ∃ r : Int, e = .returned (.int .i64 r) ∧ r ≤ left ∧ (0 ≤ r → P) ∧ Below w.heap.size w w'
theorem szE_any (n t : ByteArray) (left : Int) (w : World) (hn : n.size ≤ maxLen) (ht : t.size ≤ maxLen) (h0 : 0 ≤ left) (h1 : left ≤ 1048576) :
    Calls Try.prog 44 #[.agg #[.string n, .string t], .int .i64 left] w (GotSz (n.size ≤ 1048576 ∧ t.size ≤ 1048576) left w) := by
  unfold maxLen at hn ht
  by_cases a : left - (n.size : Int) < 0
  · go_enter Try.func44, Try.ntmps44
    go_wp2
    go_ret
    exact ⟨-1, rfl, by omega, fun h => absurd h (by omega), (Below.refl _ _).alloc (Nat.le_refl _) _⟩
  · by_cases b : left - (n.size : Int) - (t.size : Int) < 0
    · go_enter Try.func44, Try.ntmps44
      go_wp2
      go_ret
      exact ⟨-1, rfl, by omega, fun h => absurd h (by omega), (Below.refl _ _).alloc (Nat.le_refl _) _⟩
    · go_enter Try.func44, Try.ntmps44
      go_wp2
      go_ret
      exact ⟨_, rfl, by omega, fun h => ⟨by omega, by omega⟩, (Below.refl _ _).alloc (Nat.le_refl _) _⟩
def Sz1 (e : ByteArray × ByteArray) : Prop := e.1.size ≤ 1048576 ∧ e.2.size ≤ 1048576
def SzE (L : EL) : Prop := L.length ≤ 1048576 ∧ ∀ e ∈ L, Sz1 e
def MaxE (L : EL) : Prop := ∀ e ∈ L, e.1.size ≤ maxLen ∧ e.2.size ≤ maxLen
theorem fit_sz {L : EL} (h : SzE L) : FitE L := fun e m => by have := h.2 e m; unfold Sz1 at this; omega
theorem take_mem {α : Type} {p : α → Prop} {L : List α} {k : Nat} (hk : k < L.length) (h : ∀ e ∈ L.take k, p e) (h' : p L[k]) : ∀ e ∈ L.take (k + 1), p e := by
  intro e m
  rw [List.take_succ_eq_append_getElem hk] at m
  rcases List.mem_append.1 m with m | m
  · exact h e m
  · have : e = L[k] := by simpa using m
    rw [this]; exact h'
set_option maxHeartbeats 1000000 in
theorem szEs_any (v : Value) (L : EL) (w : World) (h : RdG encE w v L) (hm : MaxE L) :
    Calls Try.prog 25 #[v, .int .i64 1048576] w (GotSz (SzE L) 1048576 w) := by
  by_cases hL : L = []
  · subst hL
    obtain ⟨A, c, rfl, hc⟩ := h.nil
    go_enter Try.func25, Try.ntmps25
    go_wp2
    refine wp_loop_rounds 1 ?_
    rw [rounds_succ]; go_wp2
    go_ret
    exact ⟨_, rfl, Int.le_refl _, fun _ => ⟨by simp, by intro e m; simp at m⟩, Below.refl _ _⟩
  · obtain ⟨b, o, c, rfl, h1, h2, hb, h4⟩ := h.some hL
    unfold maxLen at h2
    have hcells := Lib.hid (fun k (hk : k < L.length) => rdE_cells h4 hk)
    clear h4 hL
    by_cases hbig : 1048576 < L.length
    · go_enter Try.func25, Try.ntmps25
      go_wp2
      go_ret
      exact ⟨-1, rfl, by omega, fun h => absurd h (by omega), Below.refl _ _⟩
    · go_enter Try.func25, Try.ntmps25
      go_wp2
      go_loopw [1, 5] (fun t i wr => ∃ (k : Nat) (r : Int), k ≤ L.length ∧ i = .int .i64 k ∧ t = .int .i64 r ∧ 0 ≤ r ∧ r ≤ 1048576 ∧ Hid (∀ e ∈ L.take k, Sz1 e) ∧ Hid (Below w.heap.size w wr)) (fun _ i _ => L.length - (intOf i).toNat)
      case atStart => exact ⟨0, _, Nat.zero_le _, rfl, rfl, by omega, by omega, Lib.hid (by simp), Lib.hid (Below.refl _ _)⟩
      case round =>
        obtain ⟨k, r, hk, rfl, rfl, r0, r1, hp, hbr⟩ := hrel
        by_cases hlt : k < L.length
        · obtain ⟨c0, c1⟩ := hcells.out k hlt
          rw [← hbr.out.cell (p := ⟨b, o + k * 2, none⟩) hb] at c0
          rw [← hbr.out.cell (p := ⟨b, o + k * 2 + 1, none⟩) hb] at c1
          obtain ⟨f0, f1⟩ := hm _ (List.getElem_mem hlt)
          have hN := fun q => take_mem (p := Sz1) hlt hp.out q
          obtain ⟨e, he⟩ : ∃ e, L[k] = e := ⟨_, rfl⟩
          rw [he] at c0 c1 f0 f1 hN
          obtain ⟨nm, tx⟩ := e
          simp only at c0 c1 f0 f1
          have HN := Lib.hid hN
          have hjj : (k : Int) < (L.length : Int) := by omega
          clear he hN
          go_wp2_with fail
          refine (szE_any nm tx r _ f0 f1 r0 r1).mono ?_
          rintro e w3 ⟨r', rfl, hr1, hr2, hb3⟩
          have hb3 := Lib.hid (below_trans' hbr.out hb3)
          have hr2 := Lib.hid hr2
          by_cases hneg : r' < 0
          · go_wp2
            go_ret
            exact ⟨_, rfl, by omega, fun h => absurd h (by omega), hb3.out⟩
          · have hx := Lib.hid (HN.out (hr2.out (by omega)))
            go_wp2
            go_roundw
            case rel => exact ⟨k + 1, r', by omega, by go_num, rfl, by omega, by omega, hx, hb3⟩
            case measure => simp [intOf]; omega
        · have HR : Hid (SzE L) := Lib.hid ⟨by omega, by have := hp.out; rw [List.take_of_length_le (by omega)] at this; exact this⟩
          go_wp2
          go_ret
          exact ⟨_, rfl, r1, fun _ => HR.out, hbr.out⟩
end Go.Proofs.Ytoiglenodiomhaa
