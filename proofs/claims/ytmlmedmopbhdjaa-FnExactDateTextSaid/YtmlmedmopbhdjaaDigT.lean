/-
  The verifier's own text: DigT.
-/
import Derived.Test.YtmlmedmopbhdjaaRows
import Derived.Test.YtmlmedmopbhdjaaDaysMath
import Derived.Laws.NewBlocks
import Derived.WalkKit
import Derived.ProofKit
import Derived.Below
import Derived.Lib.Hide
import Derived.Outline
import Derived.BigQuiet
import Derived.Deep.QuietTactic
import Derived.Deep.Draws
import Derived.Laws.OwnMore
import Derived.Laws.Rows
import Derived.WalkSpells
import Derived.Deep.RegionWith
namespace Go.Proofs.Ytmlmedmopbhdjaa
open Go.RowKit
set_option linter.unusedVariables false
theorem make4 (w : World) : (Instr.makeSlice 22 (.int .i64 4) (.int .i64 4)).run Try.prog w = .ok (.slice (some ⟨w.heap.size, 0, none⟩) 4 4) (w.alloc (.cells #[.int .u8 0, .int .u8 0, .int .u8 0, .int .u8 0] 5)) := by kernel_rfl
theorem make2 (w : World) : (Instr.makeSlice 22 (.int .i64 2) (.int .i64 2)).run Try.prog w = .ok (.slice (some ⟨w.heap.size, 0, none⟩) 2 2) (w.alloc (.cells #[.int .u8 0, .int .u8 0] 5)) := by kernel_rfl
/-- a text, and memory that grew -/
def GotStr (l : List UInt8) (w : World) (e : Ending) (w' : World) : Prop := e = .returned (.string (bs l)) ∧ Below w.heap.size w w'
theorem back_of (w : World) (b : Nat) (l : List UInt8) (k : Nat) (hk : l.length = k) (c : Nat) (h : ∀ j (hj : j < l.length), w.cell? ⟨b, j, none⟩ = some (.int .u8 l[j].toNat)) : (convert 22 9 (.slice (some ⟨b, 0, none⟩) k c)).run Try.prog w = .ok (.string (bs l)) w := by
  subst hk
  exact run_convert_bytes_back (P := Try.prog) w 22 9 5 ⟨b, 0, none⟩ c l Try.underlying22 Try.underlying5 Try.underlying9 (by
    intro j hj
    have e : (⟨b, 0, none⟩ : Addr).add j = ⟨b, j, none⟩ := by unfold Addr.add; split <;> simp_all
    rw [e]; exact h j hj)
theorem dgW {n : Int} (a : 0 ≤ n) (b : n ≤ 9) : IntKind.u8.wrap (48 + n) = ((dg n).toNat : Int) := by
  rw [dg_toNat a b]; simp [IntKind.wrap, IntKind.signed, IntKind.bits]; omega
theorem conv2 (w : World) (a b : UInt8) : (convert 22 9 (.slice (some ⟨w.heap.size, 0, none⟩) 2 2)).run Try.prog (w.alloc (.cells #[.int .u8 a.toNat, .int .u8 b.toNat] 5)) = .ok (.string (bs [a, b])) (w.alloc (.cells #[.int .u8 a.toNat, .int .u8 b.toNat] 5)) :=
  back_of _ _ [a, b] 2 rfl 2 (by
    intro j hj
    rw [World.cell?_alloc_new w _ _ j]
    match j, hj with
    | 0, _ => rfl
    | 1, _ => rfl)
theorem conv4 (w : World) (a b c d : UInt8) : (convert 22 9 (.slice (some ⟨w.heap.size, 0, none⟩) 4 4)).run Try.prog (w.alloc (.cells #[.int .u8 a.toNat, .int .u8 b.toNat, .int .u8 c.toNat, .int .u8 d.toNat] 5)) = .ok (.string (bs [a, b, c, d])) (w.alloc (.cells #[.int .u8 a.toNat, .int .u8 b.toNat, .int .u8 c.toNat, .int .u8 d.toNat] 5)) :=
  back_of _ _ [a, b, c, d] 4 rfl 4 (by
    intro j hj
    rw [World.cell?_alloc_new w _ _ j]
    match j, hj with
    | 0, _ => rfl
    | 1, _ => rfl
    | 2, _ => rfl
    | 3, _ => rfl)
set_option maxHeartbeats 1000000 in
theorem dig2_any (n : Int) (w : World) (a : 0 ≤ n) (b : n ≤ 99) :
    Calls Try.prog 39 #[.int .i64 n, .int .i64 2] w (GotStr (dg2 n) w) := by
  have hmk := make2
  have hcv := conv2 w
  have q2 : Hid (n / 10 % 10 = n / 10) := Lib.hid (by omega)
  have k1 := dgW (n := n % 10) (by omega) (by omega)
  have k2 := dgW (n := n / 10 % 10) (by omega) (by omega)
  go_enter Try.func39, Try.ntmps39
  go_wp2
  refine wp_loop_rounds 3 ?_
  rw [rounds_succ]
  go_wp2
  rw [rounds_succ]
  go_wp2
  rw [rounds_succ]
  go_wp2
  go_ret
  exact ⟨by rw [q2.out]; rfl, (Below.refl _ _).alloc (Nat.le_refl _) _⟩
set_option maxHeartbeats 1000000 in
theorem dig4_any (n : Int) (w : World) (a : 0 ≤ n) (b : n ≤ 9999) :
    Calls Try.prog 39 #[.int .i64 n, .int .i64 4] w (GotStr (dg4 n) w) := by
  have hmk := make4
  have hcv := conv4 w
  have q2 : Hid (n / 10 / 10 / 10 % 10 = n / 1000) := Lib.hid (by omega)
  have q3 : Hid (n / 10 / 10 % 10 = n / 100 % 10) := Lib.hid (by omega)
  have k1 := dgW (n := n % 10) (by omega) (by omega)
  have k2 := dgW (n := n / 10 % 10) (by omega) (by omega)
  have k3 := dgW (n := n / 10 / 10 % 10) (by omega) (by omega)
  have k4 := dgW (n := n / 10 / 10 / 10 % 10) (by omega) (by omega)
  go_enter Try.func39, Try.ntmps39
  go_wp2
  refine wp_loop_rounds 5 ?_
  rw [rounds_succ]
  go_wp2
  rw [rounds_succ]
  go_wp2
  rw [rounds_succ]
  go_wp2
  rw [rounds_succ]
  go_wp2
  rw [rounds_succ]
  go_wp2
  go_ret
  exact ⟨by rw [q2.out, q3.out]; rfl, (Below.refl _ _).alloc (Nat.le_refl _) _⟩
end Go.Proofs.Ytmlmedmopbhdjaa
