/-
  The verifier's own text: MarkSlice.
-/
import Derived.Test.YtolkgamfoopnjaaRows
import Derived.Test.YtolkgamfoopnjaaGa
import Derived.WalkKit
import Derived.ProofKit
import Derived.Below
import Derived.Lib.Hide
import Derived.Outline
import Derived.BigQuiet
import Derived.Deep.QuietTactic
import Derived.Deep.Draws
import Derived.Laws.OwnMore
import Derived.Laws.Rows
import Derived.WalkSpells
import Derived.Deep.RegionWith
namespace Go.Proofs.Ytolkgamfoopnjaa
open Go.RowKit
set_option linter.unusedVariables false
theorem digs_all : ∀ d : Fin 36, (ByteArray.mk #[48, 49, 50, 51, 52, 53, 54, 55, 56, 57, 97, 98, 99, 100, 101, 102, 103, 104, 105, 106, 107, 108, 109, 110, 111, 112, 113, 114, 115, 116, 117, 118, 119, 120, 121, 122]).extract d (d + 1) = ⟨[mdig d].toArray⟩ := by decide +kernel
theorem slice_digit (i : Int) (h0 : 0 ≤ i) (h1 : i < 36) (W : World) :
    (Instr.slice 9 (.string ⟨#[48, 49, 50, 51, 52, 53, 54, 55, 56, 57, 97, 98, 99, 100, 101, 102, 103, 104, 105, 106, 107, 108, 109, 110, 111, 112, 113, 114, 115, 116, 117, 118, 119, 120, 121, 122]⟩) (some (.int .i64 i)) (some (.int .i64 (i + 1))) none).run Try.prog W = .ok (.string (bs [mdig i.toNat])) W := by
  have h := run_slice_string (P := Try.prog) W 9 ⟨#[48, 49, 50, 51, 52, 53, 54, 55, 56, 57, 97, 98, 99, 100, 101, 102, 103, 104, 105, 106, 107, 108, 109, 110, 111, 112, 113, 114, 115, 116, 117, 118, 119, 120, 121, 122]⟩ .i64 .i64 i (i + 1) Try.underlying9 h0 (by omega) (show i + 1 ≤ (36 : Int) by omega)
  rw [h]
  have e := digs_all ⟨i.toNat, by omega⟩
  have e2 : (i + 1).toNat = i.toNat + 1 := by omega
  rw [e2]
  exact congrArg (fun x => Result.ok (Value.string x) W) e
theorem slice_mod (m : Nat) (W : World) :
    (Instr.slice 9 (.string ⟨#[48, 49, 50, 51, 52, 53, 54, 55, 56, 57, 97, 98, 99, 100, 101, 102, 103, 104, 105, 106, 107, 108, 109, 110, 111, 112, 113, 114, 115, 116, 117, 118, 119, 120, 121, 122]⟩) (some (.int .i64 ((m : Int) % 36))) (some (.int .i64 ((m : Int) % 36 + 1))) none).run Try.prog W = .ok (.string (bs [mdig (m % 36)])) W :=
  slice_digit ((m % 36 : Nat) : Int) (by omega) (by omega) W
theorem slice_mod2 (m : Nat) (W : World) :
    (Instr.slice 9 (.string ⟨#[48, 49, 50, 51, 52, 53, 54, 55, 56, 57, 97, 98, 99, 100, 101, 102, 103, 104, 105, 106, 107, 108, 109, 110, 111, 112, 113, 114, 115, 116, 117, 118, 119, 120, 121, 122]⟩) (some (.int .i64 ((m : Int) / 36 % 36))) (some (.int .i64 ((m : Int) / 36 % 36 + 1))) none).run Try.prog W = .ok (.string (bs [mdig (m / 36 % 36)])) W :=
  slice_mod (m / 36) W
end Go.Proofs.Ytolkgamfoopnjaa
