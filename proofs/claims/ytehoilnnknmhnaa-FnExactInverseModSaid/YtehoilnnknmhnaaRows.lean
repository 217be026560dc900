/-
  No cell of these rows narrows 'for every input' (looked for: loops, veiled, ifaces, maps, wideKeys, modest, calm, conditions, laid).
  DERIVED. THE GIVEN ROWS OF THIS SEAT. 8 by the template 'for every input the law returns true; each argument reads behind the call as it read before'; 0 by the template 'total and deterministic' (their statements: YtehoilnnknmhnaaTotals.lean).
  GIVEN WITH THE SEED: the statements are not yours to turn. If you find one false, say at which input.
  Laid BY PROGRAM, IN A SANDBOX (cutbox-rows.mjs): the forced cells as the released guide's own fill.sh prints them over the translation 81e2f7d9af3696e1… (all of the seat's roots in one cut). By AI agents, Wed Nov 11 2026. No macro, syntax, notation, axiom, sorry.
-/
import Derived.Test.YtehoilnnknmhnaaChecked
import GoSem.Claim
import GoSem.ClaimJoined
import GoSem.ClaimMapViews
import Derived.JoinedTies
import Derived.KernelRfl
namespace Go.Proofs.Ytehoilnnknmhnaa
/- THE CELL 'sum', in the pinned program and in every row, IS THE sha256 OF THE DUMP (.gsa) THAT YtehoilnnknmhnaaProg.lean LOADS. Nothing in Lean hashes anything: it is a label: what it is worth is what the hold of that sum in a sandbox is worth. -/
noncomputable def Try.pinned : Pinned := { name := "ytehoilnnknmhnaa", sum := "81e2f7d9af3696e1cedfaaab6f285e62f8894a711caca90ca08bba5873d1f062", checked := Try.checked }
namespace Rows
def none {H : Type} : Left H := { results := [], args := [] }

/-- 'laws.FnMulMod': WHATEVER THE INPUT: true; the input reads as it did. -/
def fnMulModSpec : ChangeSpec := { name := "fnMulMod", fn := fun _ => fun
  | [d] => { results := [.lit (.bool true)], args := [d] }
  | _ => none }
def fnMulModRow : OpenClaim := { program := "ytehoilnnknmhnaa", sum := "81e2f7d9af3696e1cedfaaab6f285e62f8894a711caca90ca08bba5873d1f062", func := "loop.example/feedbridge/laws.FnMulMod", spec := "fnMulMod", apart := false }
def FnMulModSaid : Prop := fnMulModRow.holds Try.pinned (OpenSpec.ofChange fnMulModSpec)

/-- ITS FALSE NEIGHBOUR: 'it returns false'. Refute it at one input. -/
def fnMulModWrong : ChangeSpec := { name := "fnMulMod", fn := fun _ => fun
  | [d] => { results := [.lit (.bool false)], args := [d] }
  | _ => none }
def FnMulModWrongFalsely : Prop := fnMulModRow.holds Try.pinned (OpenSpec.ofChange fnMulModWrong)

/-- 'laws.FnPowMod': WHATEVER THE INPUT: true; the input reads as it did. -/
def fnPowModSpec : ChangeSpec := { name := "fnPowMod", fn := fun _ => fun
  | [d] => { results := [.lit (.bool true)], args := [d] }
  | _ => none }
def fnPowModRow : OpenClaim := { program := "ytehoilnnknmhnaa", sum := "81e2f7d9af3696e1cedfaaab6f285e62f8894a711caca90ca08bba5873d1f062", func := "loop.example/feedbridge/laws.FnPowMod", spec := "fnPowMod", apart := false }
def FnPowModSaid : Prop := fnPowModRow.holds Try.pinned (OpenSpec.ofChange fnPowModSpec)

/-- ITS FALSE NEIGHBOUR: 'it returns false'. Refute it at one input. -/
def fnPowModWrong : ChangeSpec := { name := "fnPowMod", fn := fun _ => fun
  | [d] => { results := [.lit (.bool false)], args := [d] }
  | _ => none }
def FnPowModWrongFalsely : Prop := fnPowModRow.holds Try.pinned (OpenSpec.ofChange fnPowModWrong)

/-- 'laws.FnInverseMod': WHATEVER THE INPUT: true; the input reads as it did. -/
def fnInverseModSpec : ChangeSpec := { name := "fnInverseMod", fn := fun _ => fun
  | [d] => { results := [.lit (.bool true)], args := [d] }
  | _ => none }
def fnInverseModRow : OpenClaim := { program := "ytehoilnnknmhnaa", sum := "81e2f7d9af3696e1cedfaaab6f285e62f8894a711caca90ca08bba5873d1f062", func := "loop.example/feedbridge/laws.FnInverseMod", spec := "fnInverseMod", apart := false }
def FnInverseModSaid : Prop := fnInverseModRow.holds Try.pinned (OpenSpec.ofChange fnInverseModSpec)

/-- ITS FALSE NEIGHBOUR: 'it returns false'. Refute it at one input. -/
def fnInverseModWrong : ChangeSpec := { name := "fnInverseMod", fn := fun _ => fun
  | [d] => { results := [.lit (.bool false)], args := [d] }
  | _ => none }
def FnInverseModWrongFalsely : Prop := fnInverseModRow.holds Try.pinned (OpenSpec.ofChange fnInverseModWrong)

/-- 'laws.FnIsPrime': WHATEVER THE INPUT: true; the input reads as it did. -/
def fnIsPrimeSpec : ChangeSpec := { name := "fnIsPrime", fn := fun _ => fun
  | [d] => { results := [.lit (.bool true)], args := [d] }
  | _ => none }
def fnIsPrimeRow : OpenClaim := { program := "ytehoilnnknmhnaa", sum := "81e2f7d9af3696e1cedfaaab6f285e62f8894a711caca90ca08bba5873d1f062", func := "loop.example/feedbridge/laws.FnIsPrime", spec := "fnIsPrime", apart := false }
def FnIsPrimeSaid : Prop := fnIsPrimeRow.holds Try.pinned (OpenSpec.ofChange fnIsPrimeSpec)

/-- ITS FALSE NEIGHBOUR: 'it returns false'. Refute it at one input. -/
def fnIsPrimeWrong : ChangeSpec := { name := "fnIsPrime", fn := fun _ => fun
  | [d] => { results := [.lit (.bool false)], args := [d] }
  | _ => none }
def FnIsPrimeWrongFalsely : Prop := fnIsPrimeRow.holds Try.pinned (OpenSpec.ofChange fnIsPrimeWrong)

/-- 'laws.FnExactMulMod': WHATEVER THE INPUT: true; the input reads as it did. -/
def fnExactMulModSpec : ChangeSpec := { name := "fnExactMulMod", fn := fun _ => fun
  | [d1, d2, d3] => { results := [.lit (.bool true)], args := [d1, d2, d3] }
  | _ => none }
def fnExactMulModRow : OpenClaim := { program := "ytehoilnnknmhnaa", sum := "81e2f7d9af3696e1cedfaaab6f285e62f8894a711caca90ca08bba5873d1f062", func := "loop.example/feedbridge/laws.FnExactMulMod", spec := "fnExactMulMod", apart := false }
def FnExactMulModSaid : Prop := fnExactMulModRow.holds Try.pinned (OpenSpec.ofChange fnExactMulModSpec)

/-- ITS FALSE NEIGHBOUR: 'it returns false'. Refute it at one input. -/
def fnExactMulModWrong : ChangeSpec := { name := "fnExactMulMod", fn := fun _ => fun
  | [d1, d2, d3] => { results := [.lit (.bool false)], args := [d1, d2, d3] }
  | _ => none }
def FnExactMulModWrongFalsely : Prop := fnExactMulModRow.holds Try.pinned (OpenSpec.ofChange fnExactMulModWrong)

/-- 'laws.FnExactPowMod': WHATEVER THE INPUT: true; the input reads as it did. -/
def fnExactPowModSpec : ChangeSpec := { name := "fnExactPowMod", fn := fun _ => fun
  | [d1, d2, d3] => { results := [.lit (.bool true)], args := [d1, d2, d3] }
  | _ => none }
def fnExactPowModRow : OpenClaim := { program := "ytehoilnnknmhnaa", sum := "81e2f7d9af3696e1cedfaaab6f285e62f8894a711caca90ca08bba5873d1f062", func := "loop.example/feedbridge/laws.FnExactPowMod", spec := "fnExactPowMod", apart := false }
def FnExactPowModSaid : Prop := fnExactPowModRow.holds Try.pinned (OpenSpec.ofChange fnExactPowModSpec)

/-- ITS FALSE NEIGHBOUR: 'it returns false'. Refute it at one input. -/
def fnExactPowModWrong : ChangeSpec := { name := "fnExactPowMod", fn := fun _ => fun
  | [d1, d2, d3] => { results := [.lit (.bool false)], args := [d1, d2, d3] }
  | _ => none }
def FnExactPowModWrongFalsely : Prop := fnExactPowModRow.holds Try.pinned (OpenSpec.ofChange fnExactPowModWrong)

/-- 'laws.FnExactInverseMod': WHATEVER THE INPUT: true; the input reads as it did. -/
def fnExactInverseModSpec : ChangeSpec := { name := "fnExactInverseMod", fn := fun _ => fun
  | [d1, d2] => { results := [.lit (.bool true)], args := [d1, d2] }
  | _ => none }
def fnExactInverseModRow : OpenClaim := { program := "ytehoilnnknmhnaa", sum := "81e2f7d9af3696e1cedfaaab6f285e62f8894a711caca90ca08bba5873d1f062", func := "loop.example/feedbridge/laws.FnExactInverseMod", spec := "fnExactInverseMod", apart := false }
def FnExactInverseModSaid : Prop := fnExactInverseModRow.holds Try.pinned (OpenSpec.ofChange fnExactInverseModSpec)

/-- ITS FALSE NEIGHBOUR: 'it returns false'. Refute it at one input. -/
def fnExactInverseModWrong : ChangeSpec := { name := "fnExactInverseMod", fn := fun _ => fun
  | [d1, d2] => { results := [.lit (.bool false)], args := [d1, d2] }
  | _ => none }
def FnExactInverseModWrongFalsely : Prop := fnExactInverseModRow.holds Try.pinned (OpenSpec.ofChange fnExactInverseModWrong)

/-- 'laws.FnExactIsPrime': WHATEVER THE INPUT: true; the input reads as it did. -/
def fnExactIsPrimeSpec : ChangeSpec := { name := "fnExactIsPrime", fn := fun _ => fun
  | [d] => { results := [.lit (.bool true)], args := [d] }
  | _ => none }
def fnExactIsPrimeRow : OpenClaim := { program := "ytehoilnnknmhnaa", sum := "81e2f7d9af3696e1cedfaaab6f285e62f8894a711caca90ca08bba5873d1f062", func := "loop.example/feedbridge/laws.FnExactIsPrime", spec := "fnExactIsPrime", apart := false }
def FnExactIsPrimeSaid : Prop := fnExactIsPrimeRow.holds Try.pinned (OpenSpec.ofChange fnExactIsPrimeSpec)

/-- ITS FALSE NEIGHBOUR: 'it returns false'. Refute it at one input. -/
def fnExactIsPrimeWrong : ChangeSpec := { name := "fnExactIsPrime", fn := fun _ => fun
  | [d] => { results := [.lit (.bool false)], args := [d] }
  | _ => none }
def FnExactIsPrimeWrongFalsely : Prop := fnExactIsPrimeRow.holds Try.pinned (OpenSpec.ofChange fnExactIsPrimeWrong)

/- THE SECOND FORM. 'bulk': how many values and letters a reading holds, each counted each time it is reached (what is shared counts as often as it is met; a slice's spare places count too). A statement '..UptoSaid' is the law's where the arguments, and the package variables that the reading takes, are together of bulk at most 1048576: NARROWER than '..Said'. Prove '..Said' where nothing that the law and all that it calls make is longer than what came in: it says more and counts as full. Else prove '..UptoSaid'. A law counts once. -/
mutual
def uptoBulk {H : Type} : DataW H → Nat
  | .lit (.string bytes) => bytes.length + 1
  | .lit _ => 1
  | .nil => 1
  | .ptr d => uptoBulk d + 1
  | .slice elems spare => uptoBulkAll elems + uptoBulkAll spare + 1
  | .agg parts => uptoBulkAll parts + 1
  | .iface _ d => uptoBulk d + 1
  | .map entries => uptoBulkEntries entries + 1
  | .held _ => 1
def uptoBulkAll {H : Type} : List (DataW H) → Nat
  | [] => 0
  | d :: r => uptoBulk d + uptoBulkAll r
def uptoBulkEntries {H : Type} : List (Lit × DataW H) → Nat
  | [] => 0
  | x :: r => uptoBulkEntry x + uptoBulkEntries r
def uptoBulkEntry {H : Type} : Lit × DataW H → Nat
  | (.string bytes, d) => bytes.length + uptoBulk d + 1
  | (_, d) => uptoBulk d + 1
 end
def uptoSmall : (H : Type) → List (DataW H) → Bool := fun _ ds => decide (uptoBulkAll ds ≤ 1048576)
def OpenSpec.upto (s : _root_.Go.ChangeSpec) : _root_.Go.OpenSpec := { _root_.Go.OpenSpec.ofChange s with cond := some uptoSmall }

/-- 'laws.FnMulMod', WHERE WHAT IT READS IS OF BULK AT MOST 1048576: true; the input reads as it did. -/
def fnMulModUptoRow : OpenClaim := { program := "ytehoilnnknmhnaa", sum := "81e2f7d9af3696e1cedfaaab6f285e62f8894a711caca90ca08bba5873d1f062", func := "loop.example/feedbridge/laws.FnMulMod", spec := "fnMulMod", apart := false, narrowed := true }
def FnMulModUptoSaid : Prop := fnMulModUptoRow.holds Try.pinned (OpenSpec.upto fnMulModSpec)

/-- 'laws.FnPowMod', WHERE WHAT IT READS IS OF BULK AT MOST 1048576: true; the input reads as it did. -/
def fnPowModUptoRow : OpenClaim := { program := "ytehoilnnknmhnaa", sum := "81e2f7d9af3696e1cedfaaab6f285e62f8894a711caca90ca08bba5873d1f062", func := "loop.example/feedbridge/laws.FnPowMod", spec := "fnPowMod", apart := false, narrowed := true }
def FnPowModUptoSaid : Prop := fnPowModUptoRow.holds Try.pinned (OpenSpec.upto fnPowModSpec)

/-- 'laws.FnInverseMod', WHERE WHAT IT READS IS OF BULK AT MOST 1048576: true; the input reads as it did. -/
def fnInverseModUptoRow : OpenClaim := { program := "ytehoilnnknmhnaa", sum := "81e2f7d9af3696e1cedfaaab6f285e62f8894a711caca90ca08bba5873d1f062", func := "loop.example/feedbridge/laws.FnInverseMod", spec := "fnInverseMod", apart := false, narrowed := true }
def FnInverseModUptoSaid : Prop := fnInverseModUptoRow.holds Try.pinned (OpenSpec.upto fnInverseModSpec)

/-- 'laws.FnIsPrime', WHERE WHAT IT READS IS OF BULK AT MOST 1048576: true; the input reads as it did. -/
def fnIsPrimeUptoRow : OpenClaim := { program := "ytehoilnnknmhnaa", sum := "81e2f7d9af3696e1cedfaaab6f285e62f8894a711caca90ca08bba5873d1f062", func := "loop.example/feedbridge/laws.FnIsPrime", spec := "fnIsPrime", apart := false, narrowed := true }
def FnIsPrimeUptoSaid : Prop := fnIsPrimeUptoRow.holds Try.pinned (OpenSpec.upto fnIsPrimeSpec)

/-- 'laws.FnExactMulMod', WHERE WHAT IT READS IS OF BULK AT MOST 1048576: true; the input reads as it did. -/
def fnExactMulModUptoRow : OpenClaim := { program := "ytehoilnnknmhnaa", sum := "81e2f7d9af3696e1cedfaaab6f285e62f8894a711caca90ca08bba5873d1f062", func := "loop.example/feedbridge/laws.FnExactMulMod", spec := "fnExactMulMod", apart := false, narrowed := true }
def FnExactMulModUptoSaid : Prop := fnExactMulModUptoRow.holds Try.pinned (OpenSpec.upto fnExactMulModSpec)

/-- 'laws.FnExactPowMod', WHERE WHAT IT READS IS OF BULK AT MOST 1048576: true; the input reads as it did. -/
def fnExactPowModUptoRow : OpenClaim := { program := "ytehoilnnknmhnaa", sum := "81e2f7d9af3696e1cedfaaab6f285e62f8894a711caca90ca08bba5873d1f062", func := "loop.example/feedbridge/laws.FnExactPowMod", spec := "fnExactPowMod", apart := false, narrowed := true }
def FnExactPowModUptoSaid : Prop := fnExactPowModUptoRow.holds Try.pinned (OpenSpec.upto fnExactPowModSpec)

/-- 'laws.FnExactInverseMod', WHERE WHAT IT READS IS OF BULK AT MOST 1048576: true; the input reads as it did. -/
def fnExactInverseModUptoRow : OpenClaim := { program := "ytehoilnnknmhnaa", sum := "81e2f7d9af3696e1cedfaaab6f285e62f8894a711caca90ca08bba5873d1f062", func := "loop.example/feedbridge/laws.FnExactInverseMod", spec := "fnExactInverseMod", apart := false, narrowed := true }
def FnExactInverseModUptoSaid : Prop := fnExactInverseModUptoRow.holds Try.pinned (OpenSpec.upto fnExactInverseModSpec)

/-- 'laws.FnExactIsPrime', WHERE WHAT IT READS IS OF BULK AT MOST 1048576: true; the input reads as it did. -/
def fnExactIsPrimeUptoRow : OpenClaim := { program := "ytehoilnnknmhnaa", sum := "81e2f7d9af3696e1cedfaaab6f285e62f8894a711caca90ca08bba5873d1f062", func := "loop.example/feedbridge/laws.FnExactIsPrime", spec := "fnExactIsPrime", apart := false, narrowed := true }
def FnExactIsPrimeUptoSaid : Prop := fnExactIsPrimeUptoRow.holds Try.pinned (OpenSpec.upto fnExactIsPrimeSpec)

end Rows
end Go.Proofs.Ytehoilnnknmhnaa
