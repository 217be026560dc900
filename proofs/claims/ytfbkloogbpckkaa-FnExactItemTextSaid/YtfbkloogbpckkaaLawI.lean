/-
  The verifier's own text: LawI.
-/
import Derived.Test.YtfbkloogbpckkaaRows
import Derived.Test.YtfbkloogbpckkaaItemS
import Derived.Test.YtfbkloogbpckkaaGb
import Derived.WalkKit
import Derived.ProofKit
import Derived.Below
import Derived.Lib.Hide
import Derived.Outline
import Derived.BigQuiet
import Derived.Deep.QuietTactic
import Derived.Deep.Draws
import Derived.Laws.OwnMore
import Derived.Laws.Rows
import Derived.WalkSpells
import Derived.Deep.RegionWith
namespace Go.Proofs.Ytfbkloogbpckkaa
open Go.RowKit
set_option linter.unusedVariables false
theorem toI_any (k t b : ByteArray) (d : Int) (w : World) :
    Calls Try.prog 20 #[.agg #[.string k, .string t, .string b, .int .i64 d]] w fun e w' => e = .returned (.agg #[.string k, .string t, .string b, .int .i64 d]) ∧ Below w.heap.size w w' := by
  go_enter Try.func20, Try.ntmps20
  go_wp2
  refine bodyPost_ret (v := .agg #[.string k, .string t, .string b, .int .i64 d]) (by simp [results, Try.results20, go_sem]) rfl ⟨rfl, ?_⟩
  repeat (first | exact Below.refl _ _ | refine Below.alloc ?_ (by simp <;> omega) _ | refine Below.setCell ?_ (by simp <;> omega) _)
theorem eqI_any (k t b : ByteArray) (d : Int) (w : World) :
    Calls Try.prog 21 #[.agg #[.string k, .string t, .string b, .int .i64 d], .agg #[.string k, .string t, .string b, .int .i64 d]] w fun e w' => e = .returned (.bool true) ∧ Below w.heap.size w w' := by
  have q1 := str_same (a := k) (b := k) rfl
  have q2 := str_same (a := t) (b := t) rfl
  have q3 := str_same (a := b) (b := b) rfl
  have q4 : (d == d) = true := by simp
  go_enter Try.func21, Try.ntmps21
  go_wp2
  go_ret
  refine ⟨rfl, ?_⟩
  repeat (first | exact Below.refl _ _ | refine Below.alloc ?_ (by simp <;> omega) _ | refine Below.setCell ?_ (by simp <;> omega) _)
def Sz1I (k t b : ByteArray) : Prop := k.size ≤ 1048576 ∧ t.size ≤ 1048576 ∧ b.size ≤ 1048576
theorem szI_any (k t b : ByteArray) (d : Int) (left : Int) (w : World) (hk : k.size ≤ maxLen) (ht : t.size ≤ maxLen) (hb : b.size ≤ maxLen) (h0 : 0 ≤ left) (h1 : left ≤ 1048576) :
    Calls Try.prog 19 #[.agg #[.string k, .string t, .string b, .int .i64 d], .int .i64 left] w (GotSz (Sz1I k t b) left w) := by
  unfold maxLen at hk ht hb
  by_cases a : left - (k.size : Int) < 0
  · go_enter Try.func19, Try.ntmps19
    go_wp2
    go_ret
    exact ⟨-1, rfl, by omega, fun h => absurd h (by omega), (Below.refl _ _).alloc (Nat.le_refl _) _⟩
  · by_cases a2 : left - (k.size : Int) - (t.size : Int) < 0
    · go_enter Try.func19, Try.ntmps19
      go_wp2
      go_ret
      exact ⟨-1, rfl, by omega, fun h => absurd h (by omega), (Below.refl _ _).alloc (Nat.le_refl _) _⟩
    · by_cases a3 : left - (k.size : Int) - (t.size : Int) - (b.size : Int) < 0
      · go_enter Try.func19, Try.ntmps19
        go_wp2
        go_ret
        exact ⟨-1, rfl, by omega, fun h => absurd h (by omega), (Below.refl _ _).alloc (Nat.le_refl _) _⟩
      · go_enter Try.func19, Try.ntmps19
        go_wp2
        go_ret
        exact ⟨_, rfl, by omega, fun h => ⟨by omega, by omega, by omega⟩, (Below.refl _ _).alloc (Nat.le_refl _) _⟩
end Go.Proofs.Ytfbkloogbpckkaa
