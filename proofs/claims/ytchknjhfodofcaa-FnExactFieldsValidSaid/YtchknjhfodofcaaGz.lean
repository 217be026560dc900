/-
  The verifier's own text: MarkL2 LawF4 HeldF LawS3.
-/
import Derived.Test.YtchknjhfodofcaaRows
import Derived.Test.YtchknjhfodofcaaGb
import Derived.Test.YtchknjhfodofcaaGq
import Derived.Deep.RegionHeld3
import Derived.Test.YtchknjhfodofcaaGu
import Derived.WalkKit
import Derived.ProofKit
import Derived.Below
import Derived.Lib.Hide
import Derived.Outline
import Derived.BigQuiet
import Derived.Deep.QuietTactic
import Derived.Deep.Draws
import Derived.Laws.OwnMore
import Derived.Laws.Rows
import Derived.WalkSpells
import Derived.Deep.RegionWith
namespace Go.Proofs.Ytchknjhfodofcaa
open Go.RowKit
set_option linter.unusedVariables false
set_option maxRecDepth 100000 in
set_option maxHeartbeats 1000000 in
theorem mkl_big (k : Nat) (w : World) (hk : k ≤ 100000000) :
    Calls Try.prog 48 #[.int .i64 k] w fun e w' => e = .returned (.string (mlT k)) ∧ Below w.heap.size w w' := by
  by_cases h0 : k = 0
  · subst h0
    go_enter Try.func48, Try.ntmps48
    go_wp2
    go_ret
    exact ⟨rfl, Below.refl _ _⟩
  · have HT : Hid (mlT k = bs (109 :: mlF k k [])) := Lib.hid (by simp [mlT, h0])
    have happ := bs_append
    have hpos : 0 < k := by omega
    have d0 : decide ((k : Int) ≤ 0) = false := decide_eq_false (by omega)
    have d1 : decide (k = 0) = false := decide_eq_false h0
    have d2 : ¬ ((k : Int) ≤ 0) := by omega
    clear h0
    go_enter Try.func48, Try.ntmps48
    go_wp2
    go_loopw [0, 3] (fun i t wr => ∃ (n : Nat) (acc : List UInt8), i = .int .i64 n ∧ t = .string (bs acc) ∧ acc.length + n ≤ k ∧ Hid (mlF k k [] = mlF n n acc) ∧ Hid (Below w.heap.size w wr)) (fun i _ _ => (intOf i).toNat)
    case atStart => exact ⟨k, [], rfl, rfl, by simp, Lib.hid rfl, Lib.hid (Below.refl _ _)⟩
    case round =>
      obtain ⟨n, acc, rfl, rfl, hl, hp, hbr⟩ := hrel
      by_cases hn : n = 0
      · subst hn
        have HR : Hid (mlT k = bs (109 :: acc)) := Lib.hid (by rw [HT.out, hp.out, mlF_zero])
        have z1 : (⟨#[109]⟩ : ByteArray).size + (bs acc).size ≤ 9223372036854775807 := by rw [bs_size]; show 1 + _ ≤ _; omega
        go_wp2
        go_ret
        exact ⟨by rw [HR.out]; show Ending.returned (.string (bs [109] ++ bs acc)) = _; rw [bs_append]; rfl, hbr.out⟩
      · have HN := Lib.hid (hp.out.trans (mlF_step hn acc))
        have hpn : 0 < n := by omega
        obtain ⟨c, hc⟩ : ∃ c, UInt8.ofNat (48 + n % 10) = c := ⟨_, rfl⟩
        have hcn : (c.toNat : Int) = 48 + (n : Int) % 10 := by rw [← hc, dig_u8]; omega
        rw [hc] at HN
        have hcv : ∀ w' : World, (convert 22 9 (.slice (some ⟨w'.heap.size, 0, none⟩) 1 1)).run Try.prog (w'.alloc (.cells #[.int .u8 (48 + (n : Int) % 10)] 5)) = .ok (.string (bs [c])) (w'.alloc (.cells #[.int .u8 (48 + (n : Int) % 10)] 5)) := fun w' => by
          have := conv1 w' c
          rw [hcn] at this
          exact this
        have z1 : (bs [c]).size + (bs acc).size ≤ 9223372036854775807 := by rw [bs_size, bs_size]; show 1 + _ ≤ _; omega
        clear hc hcn
        have hsz := hbr.out.size
        clear hn
        go_wp2
        go_roundw
        case rel => exact ⟨n / 10, c :: acc, by go_num, by first | rfl | (rw [bs_append]; rfl), by simp; omega, HN, Lib.hid (hbr.out.alloc hsz _)⟩
        case measure => simp [intOf]; omega
theorem mkl_bigI (k : Int) (q : Nat) (w : World) (h : k = (q : Int)) (hq : q ≤ 100000000) :
    Calls Try.prog 48 #[.int .i64 k] w fun e w' => e = .returned (.string (mlT q)) ∧ Below w.heap.size w w' := by subst h; exact mkl_big q w hq
/-- items that were marked -/
def markF (n m : Nat) : List It := (List.range n).map fun i => ⟨mlT (m + 4 * i), mlT (m + 4 * i + 1), mlT (m + 4 * i + 2), ((m + 4 * i + 3 : Nat) : Int)⟩
theorem markF_len (n m : Nat) : (markF n m).length = n := by simp [markF]
theorem markF_get (n m i : Nat) (h : i < (markF n m).length) : (markF n m)[i] = ⟨mlT (m + 4 * i), mlT (m + 4 * i + 1), mlT (m + 4 * i + 2), ((m + 4 * i + 3 : Nat) : Int)⟩ := by simp [markF]
theorem keepF4 {W w2 w3 : World} {b i : Nat} {x0 x1 x2 x3 : Value} (hb : b < W.heap.size) (h : Below w2.heap.size w2 w3)
    (a0 : w2.cell? ⟨b, i, none⟩ = some x0) (a1 : w2.cell? ⟨b, i + 1, none⟩ = some x1) (a2 : w2.cell? ⟨b, i + 2, none⟩ = some x2) (a3 : w2.cell? ⟨b, i + 3, none⟩ = some x3) (h4 : Hid (Below W.heap.size W w2)) :
    w3.cell? ⟨b, i, none⟩ = some x0 ∧ w3.cell? ⟨b, i + 1, none⟩ = some x1 ∧ w3.cell? ⟨b, i + 2, none⟩ = some x2 ∧ w3.cell? ⟨b, i + 3, none⟩ = some x3 ∧ Hid (Below W.heap.size W w3) := by
  have hs := h4.out.size
  have q : ∀ (g k : Nat) (u : Value), g < W.heap.size → w2.cell? ⟨g, k, none⟩ = some u → w3.cell? ⟨g, k, none⟩ = some u := fun g k u hg e => by rw [h.cell (p := ⟨g, k, none⟩) (Nat.lt_of_lt_of_le hg hs)]; exact e
  exact ⟨q _ _ _ hb a0, q _ _ _ hb a1, q _ _ _ hb a2, q _ _ _ hb a3, Lib.hid (below_trans' h4.out h)⟩
/-- texts that were marked -/
def markS (n m : Nat) : List ByteArray := (List.range n).map fun i => mlT (m + i)
theorem markS_len (n m : Nat) : (markS n m).length = n := by simp [markS]
theorem markS_get (n m i : Nat) (h : i < (markS n m).length) : (markS n m)[i] = mlT (m + i) := by simp [markS]
def GotMarkS (w : World) (B : Nat) (v : Value) (n m : Nat) (e : Ending) (w' : World) : Prop := e = .returned (.int .i64 ((m + n : Nat) : Int)) ∧ OwnS w' B v (markS n m) ∧ w.grownBy w' v.ownBlock
theorem keep1 {W w2 w3 : World} {b i : Nat} {x : Value} (hb : b < W.heap.size) (h : Below w2.heap.size w2 w3) (h0 : w2.cell? ⟨b, i, none⟩ = some x) (h4 : Hid (Below W.heap.size W w2)) :
    w3.cell? ⟨b, i, none⟩ = some x ∧ Hid (Below W.heap.size W w3) := by
  exact ⟨by rw [h.cell (p := ⟨b, i, none⟩) (Nat.lt_of_lt_of_le hb h4.out.size)]; exact h0, Lib.hid (below_trans' h4.out h)⟩
end Go.Proofs.Ytchknjhfodofcaa
