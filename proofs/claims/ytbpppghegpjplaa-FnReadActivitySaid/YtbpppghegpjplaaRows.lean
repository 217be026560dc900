/-
  No cell of these rows narrows 'for every input' (looked for: loops, veiled, ifaces, maps, wideKeys, modest, calm, conditions, laid).
  DERIVED. THE GIVEN ROWS OF THIS SEAT. 4 by the template 'for every input the law returns true; each argument reads behind the call as it read before'; 0 by the template 'total and deterministic' (their statements: YtbpppghegpjplaaTotals.lean).
  GIVEN WITH THE SEED: the statements are not yours to turn. If you find one false, say at which input.
  Laid BY PROGRAM, IN A SANDBOX (cutbox-rows.mjs): the forced cells as the released guide's own fill.sh prints them over the translation 4dc775caaba1fae3… (all of the seat's roots in one cut). By AI agents, Wed Nov 11 2026. No macro, syntax, notation, axiom, sorry.
-/
import Derived.Test.YtbpppghegpjplaaChecked
import GoSem.Claim
import GoSem.ClaimJoined
import GoSem.ClaimMapViews
import Derived.JoinedTies
import Derived.KernelRfl
namespace Go.Proofs.Ytbpppghegpjplaa
/- THE CELL 'sum', in the pinned program and in every row, IS THE sha256 OF THE DUMP (.gsa) THAT YtbpppghegpjplaaProg.lean LOADS. Nothing in Lean hashes anything: it is a label: what it is worth is what the hold of that sum in a sandbox is worth. -/
noncomputable def Try.pinned : Pinned := { name := "ytbpppghegpjplaa", sum := "4dc775caaba1fae357f36218d02e2665f525a34648c5a683608067afc5c2eab6", checked := Try.checked }
namespace Rows
def none {H : Type} : Left H := { results := [], args := [] }

/-- 'laws.FnActivityText': WHATEVER THE INPUT: true; the input reads as it did. -/
def fnActivityTextSpec : ChangeSpec := { name := "fnActivityText", fn := fun _ => fun
  | [d] => { results := [.lit (.bool true)], args := [d] }
  | _ => none }
def fnActivityTextRow : OpenClaim := { program := "ytbpppghegpjplaa", sum := "4dc775caaba1fae357f36218d02e2665f525a34648c5a683608067afc5c2eab6", func := "loop.example/feedbridge/laws.FnActivityText", spec := "fnActivityText", apart := false }
def FnActivityTextSaid : Prop := fnActivityTextRow.holds Try.pinned (OpenSpec.ofChange fnActivityTextSpec)

/-- ITS FALSE NEIGHBOUR: 'it returns false'. Refute it at one input. -/
def fnActivityTextWrong : ChangeSpec := { name := "fnActivityText", fn := fun _ => fun
  | [d] => { results := [.lit (.bool false)], args := [d] }
  | _ => none }
def FnActivityTextWrongFalsely : Prop := fnActivityTextRow.holds Try.pinned (OpenSpec.ofChange fnActivityTextWrong)

/-- 'laws.FnReadActivity': WHATEVER THE INPUT: true; the input reads as it did. -/
def fnReadActivitySpec : ChangeSpec := { name := "fnReadActivity", fn := fun _ => fun
  | [d] => { results := [.lit (.bool true)], args := [d] }
  | _ => none }
def fnReadActivityRow : OpenClaim := { program := "ytbpppghegpjplaa", sum := "4dc775caaba1fae357f36218d02e2665f525a34648c5a683608067afc5c2eab6", func := "loop.example/feedbridge/laws.FnReadActivity", spec := "fnReadActivity", apart := false }
def FnReadActivitySaid : Prop := fnReadActivityRow.holds Try.pinned (OpenSpec.ofChange fnReadActivitySpec)

/-- ITS FALSE NEIGHBOUR: 'it returns false'. Refute it at one input. -/
def fnReadActivityWrong : ChangeSpec := { name := "fnReadActivity", fn := fun _ => fun
  | [d] => { results := [.lit (.bool false)], args := [d] }
  | _ => none }
def FnReadActivityWrongFalsely : Prop := fnReadActivityRow.holds Try.pinned (OpenSpec.ofChange fnReadActivityWrong)

/-- 'laws.FnAnyReadActivity': WHATEVER THE INPUT: true; the input reads as it did. -/
def fnAnyReadActivitySpec : ChangeSpec := { name := "fnAnyReadActivity", fn := fun _ => fun
  | [d] => { results := [.lit (.bool true)], args := [d] }
  | _ => none }
def fnAnyReadActivityRow : OpenClaim := { program := "ytbpppghegpjplaa", sum := "4dc775caaba1fae357f36218d02e2665f525a34648c5a683608067afc5c2eab6", func := "loop.example/feedbridge/laws.FnAnyReadActivity", spec := "fnAnyReadActivity", apart := false }
def FnAnyReadActivitySaid : Prop := fnAnyReadActivityRow.holds Try.pinned (OpenSpec.ofChange fnAnyReadActivitySpec)

/-- ITS FALSE NEIGHBOUR: 'it returns false'. Refute it at one input. -/
def fnAnyReadActivityWrong : ChangeSpec := { name := "fnAnyReadActivity", fn := fun _ => fun
  | [d] => { results := [.lit (.bool false)], args := [d] }
  | _ => none }
def FnAnyReadActivityWrongFalsely : Prop := fnAnyReadActivityRow.holds Try.pinned (OpenSpec.ofChange fnAnyReadActivityWrong)

/-- 'laws.FnExactReadActivity': WHATEVER THE INPUT: true; the input reads as it did. -/
def fnExactReadActivitySpec : ChangeSpec := { name := "fnExactReadActivity", fn := fun _ => fun
  | [d] => { results := [.lit (.bool true)], args := [d] }
  | _ => none }
def fnExactReadActivityRow : OpenClaim := { program := "ytbpppghegpjplaa", sum := "4dc775caaba1fae357f36218d02e2665f525a34648c5a683608067afc5c2eab6", func := "loop.example/feedbridge/laws.FnExactReadActivity", spec := "fnExactReadActivity", apart := false }
def FnExactReadActivitySaid : Prop := fnExactReadActivityRow.holds Try.pinned (OpenSpec.ofChange fnExactReadActivitySpec)

/-- ITS FALSE NEIGHBOUR: 'it returns false'. Refute it at one input. -/
def fnExactReadActivityWrong : ChangeSpec := { name := "fnExactReadActivity", fn := fun _ => fun
  | [d] => { results := [.lit (.bool false)], args := [d] }
  | _ => none }
def FnExactReadActivityWrongFalsely : Prop := fnExactReadActivityRow.holds Try.pinned (OpenSpec.ofChange fnExactReadActivityWrong)

/- THE SECOND FORM. 'bulk': how many values and letters a reading holds, each counted each time it is reached (what is shared counts as often as it is met; a slice's spare places count too). A statement '..UptoSaid' is the law's where the arguments, and the package variables that the reading takes, are together of bulk at most 1048576: NARROWER than '..Said'. Prove '..Said' where nothing that the law and all that it calls make is longer than what came in: it says more and counts as full. Else prove '..UptoSaid'. A law counts once. -/
mutual
def uptoBulk {H : Type} : DataW H → Nat
  | .lit (.string bytes) => bytes.length + 1
  | .lit _ => 1
  | .nil => 1
  | .ptr d => uptoBulk d + 1
  | .slice elems spare => uptoBulkAll elems + uptoBulkAll spare + 1
  | .agg parts => uptoBulkAll parts + 1
  | .iface _ d => uptoBulk d + 1
  | .map entries => uptoBulkEntries entries + 1
  | .held _ => 1
def uptoBulkAll {H : Type} : List (DataW H) → Nat
  | [] => 0
  | d :: r => uptoBulk d + uptoBulkAll r
def uptoBulkEntries {H : Type} : List (Lit × DataW H) → Nat
  | [] => 0
  | x :: r => uptoBulkEntry x + uptoBulkEntries r
def uptoBulkEntry {H : Type} : Lit × DataW H → Nat
  | (.string bytes, d) => bytes.length + uptoBulk d + 1
  | (_, d) => uptoBulk d + 1
 end
def uptoSmall : (H : Type) → List (DataW H) → Bool := fun _ ds => decide (uptoBulkAll ds ≤ 1048576)
def OpenSpec.upto (s : _root_.Go.ChangeSpec) : _root_.Go.OpenSpec := { _root_.Go.OpenSpec.ofChange s with cond := some uptoSmall }

/-- 'laws.FnActivityText', WHERE WHAT IT READS IS OF BULK AT MOST 1048576: true; the input reads as it did. -/
def fnActivityTextUptoRow : OpenClaim := { program := "ytbpppghegpjplaa", sum := "4dc775caaba1fae357f36218d02e2665f525a34648c5a683608067afc5c2eab6", func := "loop.example/feedbridge/laws.FnActivityText", spec := "fnActivityText", apart := false, narrowed := true }
def FnActivityTextUptoSaid : Prop := fnActivityTextUptoRow.holds Try.pinned (OpenSpec.upto fnActivityTextSpec)

/-- 'laws.FnReadActivity', WHERE WHAT IT READS IS OF BULK AT MOST 1048576: true; the input reads as it did. -/
def fnReadActivityUptoRow : OpenClaim := { program := "ytbpppghegpjplaa", sum := "4dc775caaba1fae357f36218d02e2665f525a34648c5a683608067afc5c2eab6", func := "loop.example/feedbridge/laws.FnReadActivity", spec := "fnReadActivity", apart := false, narrowed := true }
def FnReadActivityUptoSaid : Prop := fnReadActivityUptoRow.holds Try.pinned (OpenSpec.upto fnReadActivitySpec)

/-- 'laws.FnAnyReadActivity', WHERE WHAT IT READS IS OF BULK AT MOST 1048576: true; the input reads as it did. -/
def fnAnyReadActivityUptoRow : OpenClaim := { program := "ytbpppghegpjplaa", sum := "4dc775caaba1fae357f36218d02e2665f525a34648c5a683608067afc5c2eab6", func := "loop.example/feedbridge/laws.FnAnyReadActivity", spec := "fnAnyReadActivity", apart := false, narrowed := true }
def FnAnyReadActivityUptoSaid : Prop := fnAnyReadActivityUptoRow.holds Try.pinned (OpenSpec.upto fnAnyReadActivitySpec)

/-- 'laws.FnExactReadActivity', WHERE WHAT IT READS IS OF BULK AT MOST 1048576: true; the input reads as it did. -/
def fnExactReadActivityUptoRow : OpenClaim := { program := "ytbpppghegpjplaa", sum := "4dc775caaba1fae357f36218d02e2665f525a34648c5a683608067afc5c2eab6", func := "loop.example/feedbridge/laws.FnExactReadActivity", spec := "fnExactReadActivity", apart := false, narrowed := true }
def FnExactReadActivityUptoSaid : Prop := fnExactReadActivityUptoRow.holds Try.pinned (OpenSpec.upto fnExactReadActivitySpec)

end Rows
end Go.Proofs.Ytbpppghegpjplaa
