/-
  No cell of these rows narrows 'for every input' (looked for: loops, veiled, ifaces, maps, wideKeys, modest, calm, conditions, laid).
  DERIVED. THE GIVEN ROWS OF THIS SEAT. 8 by the template 'for every input the law returns true; each argument reads behind the call as it read before'; 0 by the template 'total and deterministic' (their statements: YthjjagfghbljpaaTotals.lean).
  GIVEN WITH THE SEED: the statements are not yours to turn. If you find one false, say at which input.
  Laid BY PROGRAM, IN A SANDBOX (cutbox-rows.mjs): the forced cells as the released guide's own fill.sh prints them over the translation e6d93e09ff7fb999… (all of the seat's roots in one cut). By AI agents, Wed Nov 11 2026. No macro, syntax, notation, axiom, sorry.
-/
import Derived.Test.YthjjagfghbljpaaChecked
import GoSem.Claim
import GoSem.ClaimJoined
import GoSem.ClaimMapViews
import Derived.JoinedTies
import Derived.KernelRfl
namespace Go.Proofs.Ythjjagfghbljpaa
/- THE CELL 'sum', in the pinned program and in every row, IS THE sha256 OF THE DUMP (.gsa) THAT YthjjagfghbljpaaProg.lean LOADS. Nothing in Lean hashes anything: it is a label: what it is worth is what the hold of that sum in a sandbox is worth. -/
noncomputable def Try.pinned : Pinned := { name := "ythjjagfghbljpaa", sum := "e6d93e09ff7fb999ba74838a2a1235d07476dbfdccec3e8660af135e52539d84", checked := Try.checked }
namespace Rows
def none {H : Type} : Left H := { results := [], args := [] }

/-- 'laws.FnKeyValid': WHATEVER THE INPUT: true; the input reads as it did. -/
def fnKeyValidSpec : ChangeSpec := { name := "fnKeyValid", fn := fun _ => fun
  | [d] => { results := [.lit (.bool true)], args := [d] }
  | _ => none }
def fnKeyValidRow : OpenClaim := { program := "ythjjagfghbljpaa", sum := "e6d93e09ff7fb999ba74838a2a1235d07476dbfdccec3e8660af135e52539d84", func := "loop.example/feedbridge/laws.FnKeyValid", spec := "fnKeyValid", apart := false }
def FnKeyValidSaid : Prop := fnKeyValidRow.holds Try.pinned (OpenSpec.ofChange fnKeyValidSpec)

/-- ITS FALSE NEIGHBOUR: 'it returns false'. Refute it at one input. -/
def fnKeyValidWrong : ChangeSpec := { name := "fnKeyValid", fn := fun _ => fun
  | [d] => { results := [.lit (.bool false)], args := [d] }
  | _ => none }
def FnKeyValidWrongFalsely : Prop := fnKeyValidRow.holds Try.pinned (OpenSpec.ofChange fnKeyValidWrong)

/-- 'laws.FnKeyModulus': WHATEVER THE INPUT: true; the input reads as it did. -/
def fnKeyModulusSpec : ChangeSpec := { name := "fnKeyModulus", fn := fun _ => fun
  | [d] => { results := [.lit (.bool true)], args := [d] }
  | _ => none }
def fnKeyModulusRow : OpenClaim := { program := "ythjjagfghbljpaa", sum := "e6d93e09ff7fb999ba74838a2a1235d07476dbfdccec3e8660af135e52539d84", func := "loop.example/feedbridge/laws.FnKeyModulus", spec := "fnKeyModulus", apart := false }
def FnKeyModulusSaid : Prop := fnKeyModulusRow.holds Try.pinned (OpenSpec.ofChange fnKeyModulusSpec)

/-- ITS FALSE NEIGHBOUR: 'it returns false'. Refute it at one input. -/
def fnKeyModulusWrong : ChangeSpec := { name := "fnKeyModulus", fn := fun _ => fun
  | [d] => { results := [.lit (.bool false)], args := [d] }
  | _ => none }
def FnKeyModulusWrongFalsely : Prop := fnKeyModulusRow.holds Try.pinned (OpenSpec.ofChange fnKeyModulusWrong)

/-- 'laws.FnSignNumber': WHATEVER THE INPUT: true; the input reads as it did. -/
def fnSignNumberSpec : ChangeSpec := { name := "fnSignNumber", fn := fun _ => fun
  | [d] => { results := [.lit (.bool true)], args := [d] }
  | _ => none }
def fnSignNumberRow : OpenClaim := { program := "ythjjagfghbljpaa", sum := "e6d93e09ff7fb999ba74838a2a1235d07476dbfdccec3e8660af135e52539d84", func := "loop.example/feedbridge/laws.FnSignNumber", spec := "fnSignNumber", apart := false }
def FnSignNumberSaid : Prop := fnSignNumberRow.holds Try.pinned (OpenSpec.ofChange fnSignNumberSpec)

/-- ITS FALSE NEIGHBOUR: 'it returns false'. Refute it at one input. -/
def fnSignNumberWrong : ChangeSpec := { name := "fnSignNumber", fn := fun _ => fun
  | [d] => { results := [.lit (.bool false)], args := [d] }
  | _ => none }
def FnSignNumberWrongFalsely : Prop := fnSignNumberRow.holds Try.pinned (OpenSpec.ofChange fnSignNumberWrong)

/-- 'laws.FnOpenNumber': WHATEVER THE INPUT: true; the input reads as it did. -/
def fnOpenNumberSpec : ChangeSpec := { name := "fnOpenNumber", fn := fun _ => fun
  | [d] => { results := [.lit (.bool true)], args := [d] }
  | _ => none }
def fnOpenNumberRow : OpenClaim := { program := "ythjjagfghbljpaa", sum := "e6d93e09ff7fb999ba74838a2a1235d07476dbfdccec3e8660af135e52539d84", func := "loop.example/feedbridge/laws.FnOpenNumber", spec := "fnOpenNumber", apart := false }
def FnOpenNumberSaid : Prop := fnOpenNumberRow.holds Try.pinned (OpenSpec.ofChange fnOpenNumberSpec)

/-- ITS FALSE NEIGHBOUR: 'it returns false'. Refute it at one input. -/
def fnOpenNumberWrong : ChangeSpec := { name := "fnOpenNumber", fn := fun _ => fun
  | [d] => { results := [.lit (.bool false)], args := [d] }
  | _ => none }
def FnOpenNumberWrongFalsely : Prop := fnOpenNumberRow.holds Try.pinned (OpenSpec.ofChange fnOpenNumberWrong)

/-- 'laws.FnExactKeyValid': WHATEVER THE INPUT: true; the input reads as it did. -/
def fnExactKeyValidSpec : ChangeSpec := { name := "fnExactKeyValid", fn := fun _ => fun
  | [d] => { results := [.lit (.bool true)], args := [d] }
  | _ => none }
def fnExactKeyValidRow : OpenClaim := { program := "ythjjagfghbljpaa", sum := "e6d93e09ff7fb999ba74838a2a1235d07476dbfdccec3e8660af135e52539d84", func := "loop.example/feedbridge/laws.FnExactKeyValid", spec := "fnExactKeyValid", apart := false }
def FnExactKeyValidSaid : Prop := fnExactKeyValidRow.holds Try.pinned (OpenSpec.ofChange fnExactKeyValidSpec)

/-- ITS FALSE NEIGHBOUR: 'it returns false'. Refute it at one input. -/
def fnExactKeyValidWrong : ChangeSpec := { name := "fnExactKeyValid", fn := fun _ => fun
  | [d] => { results := [.lit (.bool false)], args := [d] }
  | _ => none }
def FnExactKeyValidWrongFalsely : Prop := fnExactKeyValidRow.holds Try.pinned (OpenSpec.ofChange fnExactKeyValidWrong)

/-- 'laws.FnExactKeyModulus': WHATEVER THE INPUT: true; the input reads as it did. -/
def fnExactKeyModulusSpec : ChangeSpec := { name := "fnExactKeyModulus", fn := fun _ => fun
  | [d] => { results := [.lit (.bool true)], args := [d] }
  | _ => none }
def fnExactKeyModulusRow : OpenClaim := { program := "ythjjagfghbljpaa", sum := "e6d93e09ff7fb999ba74838a2a1235d07476dbfdccec3e8660af135e52539d84", func := "loop.example/feedbridge/laws.FnExactKeyModulus", spec := "fnExactKeyModulus", apart := false }
def FnExactKeyModulusSaid : Prop := fnExactKeyModulusRow.holds Try.pinned (OpenSpec.ofChange fnExactKeyModulusSpec)

/-- ITS FALSE NEIGHBOUR: 'it returns false'. Refute it at one input. -/
def fnExactKeyModulusWrong : ChangeSpec := { name := "fnExactKeyModulus", fn := fun _ => fun
  | [d] => { results := [.lit (.bool false)], args := [d] }
  | _ => none }
def FnExactKeyModulusWrongFalsely : Prop := fnExactKeyModulusRow.holds Try.pinned (OpenSpec.ofChange fnExactKeyModulusWrong)

/-- 'laws.FnExactSignNumber': WHATEVER THE INPUT: true; the input reads as it did. -/
def fnExactSignNumberSpec : ChangeSpec := { name := "fnExactSignNumber", fn := fun _ => fun
  | [d1, d2] => { results := [.lit (.bool true)], args := [d1, d2] }
  | _ => none }
def fnExactSignNumberRow : OpenClaim := { program := "ythjjagfghbljpaa", sum := "e6d93e09ff7fb999ba74838a2a1235d07476dbfdccec3e8660af135e52539d84", func := "loop.example/feedbridge/laws.FnExactSignNumber", spec := "fnExactSignNumber", apart := false }
def FnExactSignNumberSaid : Prop := fnExactSignNumberRow.holds Try.pinned (OpenSpec.ofChange fnExactSignNumberSpec)

/-- ITS FALSE NEIGHBOUR: 'it returns false'. Refute it at one input. -/
def fnExactSignNumberWrong : ChangeSpec := { name := "fnExactSignNumber", fn := fun _ => fun
  | [d1, d2] => { results := [.lit (.bool false)], args := [d1, d2] }
  | _ => none }
def FnExactSignNumberWrongFalsely : Prop := fnExactSignNumberRow.holds Try.pinned (OpenSpec.ofChange fnExactSignNumberWrong)

/-- 'laws.FnExactOpenNumber': WHATEVER THE INPUT: true; the input reads as it did. -/
def fnExactOpenNumberSpec : ChangeSpec := { name := "fnExactOpenNumber", fn := fun _ => fun
  | [d1, d2, d3] => { results := [.lit (.bool true)], args := [d1, d2, d3] }
  | _ => none }
def fnExactOpenNumberRow : OpenClaim := { program := "ythjjagfghbljpaa", sum := "e6d93e09ff7fb999ba74838a2a1235d07476dbfdccec3e8660af135e52539d84", func := "loop.example/feedbridge/laws.FnExactOpenNumber", spec := "fnExactOpenNumber", apart := false }
def FnExactOpenNumberSaid : Prop := fnExactOpenNumberRow.holds Try.pinned (OpenSpec.ofChange fnExactOpenNumberSpec)

/-- ITS FALSE NEIGHBOUR: 'it returns false'. Refute it at one input. -/
def fnExactOpenNumberWrong : ChangeSpec := { name := "fnExactOpenNumber", fn := fun _ => fun
  | [d1, d2, d3] => { results := [.lit (.bool false)], args := [d1, d2, d3] }
  | _ => none }
def FnExactOpenNumberWrongFalsely : Prop := fnExactOpenNumberRow.holds Try.pinned (OpenSpec.ofChange fnExactOpenNumberWrong)

/- THE SECOND FORM. 'bulk': how many values and letters a reading holds, each counted each time it is reached (what is shared counts as often as it is met; a slice's spare places count too). A statement '..UptoSaid' is the law's where the arguments, and the package variables that the reading takes, are together of bulk at most 1048576: NARROWER than '..Said'. Prove '..Said' where nothing that the law and all that it calls make is longer than what came in: it says more and counts as full. Else prove '..UptoSaid'. A law counts once. -/
mutual
def uptoBulk {H : Type} : DataW H → Nat
  | .lit (.string bytes) => bytes.length + 1
  | .lit _ => 1
  | .nil => 1
  | .ptr d => uptoBulk d + 1
  | .slice elems spare => uptoBulkAll elems + uptoBulkAll spare + 1
  | .agg parts => uptoBulkAll parts + 1
  | .iface _ d => uptoBulk d + 1
  | .map entries => uptoBulkEntries entries + 1
  | .held _ => 1
def uptoBulkAll {H : Type} : List (DataW H) → Nat
  | [] => 0
  | d :: r => uptoBulk d + uptoBulkAll r
def uptoBulkEntries {H : Type} : List (Lit × DataW H) → Nat
  | [] => 0
  | x :: r => uptoBulkEntry x + uptoBulkEntries r
def uptoBulkEntry {H : Type} : Lit × DataW H → Nat
  | (.string bytes, d) => bytes.length + uptoBulk d + 1
  | (_, d) => uptoBulk d + 1
 end
def uptoSmall : (H : Type) → List (DataW H) → Bool := fun _ ds => decide (uptoBulkAll ds ≤ 1048576)
def OpenSpec.upto (s : _root_.Go.ChangeSpec) : _root_.Go.OpenSpec := { _root_.Go.OpenSpec.ofChange s with cond := some uptoSmall }

/-- 'laws.FnKeyValid', WHERE WHAT IT READS IS OF BULK AT MOST 1048576: true; the input reads as it did. -/
def fnKeyValidUptoRow : OpenClaim := { program := "ythjjagfghbljpaa", sum := "e6d93e09ff7fb999ba74838a2a1235d07476dbfdccec3e8660af135e52539d84", func := "loop.example/feedbridge/laws.FnKeyValid", spec := "fnKeyValid", apart := false, narrowed := true }
def FnKeyValidUptoSaid : Prop := fnKeyValidUptoRow.holds Try.pinned (OpenSpec.upto fnKeyValidSpec)

/-- 'laws.FnKeyModulus', WHERE WHAT IT READS IS OF BULK AT MOST 1048576: true; the input reads as it did. -/
def fnKeyModulusUptoRow : OpenClaim := { program := "ythjjagfghbljpaa", sum := "e6d93e09ff7fb999ba74838a2a1235d07476dbfdccec3e8660af135e52539d84", func := "loop.example/feedbridge/laws.FnKeyModulus", spec := "fnKeyModulus", apart := false, narrowed := true }
def FnKeyModulusUptoSaid : Prop := fnKeyModulusUptoRow.holds Try.pinned (OpenSpec.upto fnKeyModulusSpec)

/-- 'laws.FnSignNumber', WHERE WHAT IT READS IS OF BULK AT MOST 1048576: true; the input reads as it did. -/
def fnSignNumberUptoRow : OpenClaim := { program := "ythjjagfghbljpaa", sum := "e6d93e09ff7fb999ba74838a2a1235d07476dbfdccec3e8660af135e52539d84", func := "loop.example/feedbridge/laws.FnSignNumber", spec := "fnSignNumber", apart := false, narrowed := true }
def FnSignNumberUptoSaid : Prop := fnSignNumberUptoRow.holds Try.pinned (OpenSpec.upto fnSignNumberSpec)

/-- 'laws.FnOpenNumber', WHERE WHAT IT READS IS OF BULK AT MOST 1048576: true; the input reads as it did. -/
def fnOpenNumberUptoRow : OpenClaim := { program := "ythjjagfghbljpaa", sum := "e6d93e09ff7fb999ba74838a2a1235d07476dbfdccec3e8660af135e52539d84", func := "loop.example/feedbridge/laws.FnOpenNumber", spec := "fnOpenNumber", apart := false, narrowed := true }
def FnOpenNumberUptoSaid : Prop := fnOpenNumberUptoRow.holds Try.pinned (OpenSpec.upto fnOpenNumberSpec)

/-- 'laws.FnExactKeyValid', WHERE WHAT IT READS IS OF BULK AT MOST 1048576: true; the input reads as it did. -/
def fnExactKeyValidUptoRow : OpenClaim := { program := "ythjjagfghbljpaa", sum := "e6d93e09ff7fb999ba74838a2a1235d07476dbfdccec3e8660af135e52539d84", func := "loop.example/feedbridge/laws.FnExactKeyValid", spec := "fnExactKeyValid", apart := false, narrowed := true }
def FnExactKeyValidUptoSaid : Prop := fnExactKeyValidUptoRow.holds Try.pinned (OpenSpec.upto fnExactKeyValidSpec)

/-- 'laws.FnExactKeyModulus', WHERE WHAT IT READS IS OF BULK AT MOST 1048576: true; the input reads as it did. -/
def fnExactKeyModulusUptoRow : OpenClaim := { program := "ythjjagfghbljpaa", sum := "e6d93e09ff7fb999ba74838a2a1235d07476dbfdccec3e8660af135e52539d84", func := "loop.example/feedbridge/laws.FnExactKeyModulus", spec := "fnExactKeyModulus", apart := false, narrowed := true }
def FnExactKeyModulusUptoSaid : Prop := fnExactKeyModulusUptoRow.holds Try.pinned (OpenSpec.upto fnExactKeyModulusSpec)

/-- 'laws.FnExactSignNumber', WHERE WHAT IT READS IS OF BULK AT MOST 1048576: true; the input reads as it did. -/
def fnExactSignNumberUptoRow : OpenClaim := { program := "ythjjagfghbljpaa", sum := "e6d93e09ff7fb999ba74838a2a1235d07476dbfdccec3e8660af135e52539d84", func := "loop.example/feedbridge/laws.FnExactSignNumber", spec := "fnExactSignNumber", apart := false, narrowed := true }
def FnExactSignNumberUptoSaid : Prop := fnExactSignNumberUptoRow.holds Try.pinned (OpenSpec.upto fnExactSignNumberSpec)

/-- 'laws.FnExactOpenNumber', WHERE WHAT IT READS IS OF BULK AT MOST 1048576: true; the input reads as it did. -/
def fnExactOpenNumberUptoRow : OpenClaim := { program := "ythjjagfghbljpaa", sum := "e6d93e09ff7fb999ba74838a2a1235d07476dbfdccec3e8660af135e52539d84", func := "loop.example/feedbridge/laws.FnExactOpenNumber", spec := "fnExactOpenNumber", apart := false, narrowed := true }
def FnExactOpenNumberUptoSaid : Prop := fnExactOpenNumberUptoRow.holds Try.pinned (OpenSpec.upto fnExactOpenNumberSpec)

end Rows
end Go.Proofs.Ythjjagfghbljpaa
