/-
  No cell of these rows narrows 'for every input' (looked for: loops, veiled, ifaces, maps, wideKeys, modest, calm, conditions, laid).
  DERIVED. THE GIVEN ROWS OF THIS SEAT. 6 by the template 'for every input the law returns true; each argument reads behind the call as it read before'; 0 by the template 'total and deterministic' (their statements: YtomalmehnidhkaaTotals.lean).
  GIVEN WITH THE SEED: the statements are not yours to turn. If you find one false, say at which input.
  Laid BY PROGRAM, IN A SANDBOX (cutbox-rows.mjs): the forced cells as the released guide's own fill.sh prints them over the translation 7159b07865284723… (all of the seat's roots in one cut). By AI agents, Wed Nov 11 2026. No macro, syntax, notation, axiom, sorry.
-/
import Derived.Test.YtomalmehnidhkaaChecked
import GoSem.Claim
import GoSem.ClaimJoined
import GoSem.ClaimMapViews
import Derived.JoinedTies
import Derived.KernelRfl
namespace Go.Proofs.Ytomalmehnidhkaa
/- THE CELL 'sum', in the pinned program and in every row, IS THE sha256 OF THE DUMP (.gsa) THAT YtomalmehnidhkaaProg.lean LOADS. Nothing in Lean hashes anything: it is a label: what it is worth is what the hold of that sum in a sandbox is worth. -/
noncomputable def Try.pinned : Pinned := { name := "ytomalmehnidhkaa", sum := "7159b078652847239a706d080805d64f65a34ba1aaf50d472604f978f79c013c", checked := Try.checked }
namespace Rows
def none {H : Type} : Left H := { results := [], args := [] }

/-- 'laws.FnItemValid': WHATEVER THE INPUT: true; the input reads as it did. -/
def fnItemValidSpec : ChangeSpec := { name := "fnItemValid", fn := fun _ => fun
  | [d] => { results := [.lit (.bool true)], args := [d] }
  | _ => none }
def fnItemValidRow : OpenClaim := { program := "ytomalmehnidhkaa", sum := "7159b078652847239a706d080805d64f65a34ba1aaf50d472604f978f79c013c", func := "loop.example/feedbridge/laws.FnItemValid", spec := "fnItemValid", apart := false }
def FnItemValidSaid : Prop := fnItemValidRow.holds Try.pinned (OpenSpec.ofChange fnItemValidSpec)

/-- ITS FALSE NEIGHBOUR: 'it returns false'. Refute it at one input. -/
def fnItemValidWrong : ChangeSpec := { name := "fnItemValid", fn := fun _ => fun
  | [d] => { results := [.lit (.bool false)], args := [d] }
  | _ => none }
def FnItemValidWrongFalsely : Prop := fnItemValidRow.holds Try.pinned (OpenSpec.ofChange fnItemValidWrong)

/-- 'laws.FnItemText': WHATEVER THE INPUT: true; the input reads as it did. -/
def fnItemTextSpec : ChangeSpec := { name := "fnItemText", fn := fun _ => fun
  | [d] => { results := [.lit (.bool true)], args := [d] }
  | _ => none }
def fnItemTextRow : OpenClaim := { program := "ytomalmehnidhkaa", sum := "7159b078652847239a706d080805d64f65a34ba1aaf50d472604f978f79c013c", func := "loop.example/feedbridge/laws.FnItemText", spec := "fnItemText", apart := false }
def FnItemTextSaid : Prop := fnItemTextRow.holds Try.pinned (OpenSpec.ofChange fnItemTextSpec)

/-- ITS FALSE NEIGHBOUR: 'it returns false'. Refute it at one input. -/
def fnItemTextWrong : ChangeSpec := { name := "fnItemText", fn := fun _ => fun
  | [d] => { results := [.lit (.bool false)], args := [d] }
  | _ => none }
def FnItemTextWrongFalsely : Prop := fnItemTextRow.holds Try.pinned (OpenSpec.ofChange fnItemTextWrong)

/-- 'laws.FnReadItem': WHATEVER THE INPUT: true; the input reads as it did. -/
def fnReadItemSpec : ChangeSpec := { name := "fnReadItem", fn := fun _ => fun
  | [d] => { results := [.lit (.bool true)], args := [d] }
  | _ => none }
def fnReadItemRow : OpenClaim := { program := "ytomalmehnidhkaa", sum := "7159b078652847239a706d080805d64f65a34ba1aaf50d472604f978f79c013c", func := "loop.example/feedbridge/laws.FnReadItem", spec := "fnReadItem", apart := false }
def FnReadItemSaid : Prop := fnReadItemRow.holds Try.pinned (OpenSpec.ofChange fnReadItemSpec)

/-- ITS FALSE NEIGHBOUR: 'it returns false'. Refute it at one input. -/
def fnReadItemWrong : ChangeSpec := { name := "fnReadItem", fn := fun _ => fun
  | [d] => { results := [.lit (.bool false)], args := [d] }
  | _ => none }
def FnReadItemWrongFalsely : Prop := fnReadItemRow.holds Try.pinned (OpenSpec.ofChange fnReadItemWrong)

/-- 'laws.FnExactItemValid': WHATEVER THE INPUT: true; the input reads as it did. -/
def fnExactItemValidSpec : ChangeSpec := { name := "fnExactItemValid", fn := fun _ => fun
  | [d] => { results := [.lit (.bool true)], args := [d] }
  | _ => none }
def fnExactItemValidRow : OpenClaim := { program := "ytomalmehnidhkaa", sum := "7159b078652847239a706d080805d64f65a34ba1aaf50d472604f978f79c013c", func := "loop.example/feedbridge/laws.FnExactItemValid", spec := "fnExactItemValid", apart := false }
def FnExactItemValidSaid : Prop := fnExactItemValidRow.holds Try.pinned (OpenSpec.ofChange fnExactItemValidSpec)

/-- ITS FALSE NEIGHBOUR: 'it returns false'. Refute it at one input. -/
def fnExactItemValidWrong : ChangeSpec := { name := "fnExactItemValid", fn := fun _ => fun
  | [d] => { results := [.lit (.bool false)], args := [d] }
  | _ => none }
def FnExactItemValidWrongFalsely : Prop := fnExactItemValidRow.holds Try.pinned (OpenSpec.ofChange fnExactItemValidWrong)

/-- 'laws.FnExactItemText': WHATEVER THE INPUT: true; the input reads as it did. -/
def fnExactItemTextSpec : ChangeSpec := { name := "fnExactItemText", fn := fun _ => fun
  | [d] => { results := [.lit (.bool true)], args := [d] }
  | _ => none }
def fnExactItemTextRow : OpenClaim := { program := "ytomalmehnidhkaa", sum := "7159b078652847239a706d080805d64f65a34ba1aaf50d472604f978f79c013c", func := "loop.example/feedbridge/laws.FnExactItemText", spec := "fnExactItemText", apart := false }
def FnExactItemTextSaid : Prop := fnExactItemTextRow.holds Try.pinned (OpenSpec.ofChange fnExactItemTextSpec)

/-- ITS FALSE NEIGHBOUR: 'it returns false'. Refute it at one input. -/
def fnExactItemTextWrong : ChangeSpec := { name := "fnExactItemText", fn := fun _ => fun
  | [d] => { results := [.lit (.bool false)], args := [d] }
  | _ => none }
def FnExactItemTextWrongFalsely : Prop := fnExactItemTextRow.holds Try.pinned (OpenSpec.ofChange fnExactItemTextWrong)

/-- 'laws.FnExactReadItem': WHATEVER THE INPUT: true; the input reads as it did. -/
def fnExactReadItemSpec : ChangeSpec := { name := "fnExactReadItem", fn := fun _ => fun
  | [d] => { results := [.lit (.bool true)], args := [d] }
  | _ => none }
def fnExactReadItemRow : OpenClaim := { program := "ytomalmehnidhkaa", sum := "7159b078652847239a706d080805d64f65a34ba1aaf50d472604f978f79c013c", func := "loop.example/feedbridge/laws.FnExactReadItem", spec := "fnExactReadItem", apart := false }
def FnExactReadItemSaid : Prop := fnExactReadItemRow.holds Try.pinned (OpenSpec.ofChange fnExactReadItemSpec)

/-- ITS FALSE NEIGHBOUR: 'it returns false'. Refute it at one input. -/
def fnExactReadItemWrong : ChangeSpec := { name := "fnExactReadItem", fn := fun _ => fun
  | [d] => { results := [.lit (.bool false)], args := [d] }
  | _ => none }
def FnExactReadItemWrongFalsely : Prop := fnExactReadItemRow.holds Try.pinned (OpenSpec.ofChange fnExactReadItemWrong)

/- THE SECOND FORM. 'bulk': how many values and letters a reading holds, each counted each time it is reached (what is shared counts as often as it is met; a slice's spare places count too). A statement '..UptoSaid' is the law's where the arguments, and the package variables that the reading takes, are together of bulk at most 1048576: NARROWER than '..Said'. Prove '..Said' where nothing that the law and all that it calls make is longer than what came in: it says more and counts as full. Else prove '..UptoSaid'. A law counts once. -/
mutual
def uptoBulk {H : Type} : DataW H → Nat
  | .lit (.string bytes) => bytes.length + 1
  | .lit _ => 1
  | .nil => 1
  | .ptr d => uptoBulk d + 1
  | .slice elems spare => uptoBulkAll elems + uptoBulkAll spare + 1
  | .agg parts => uptoBulkAll parts + 1
  | .iface _ d => uptoBulk d + 1
  | .map entries => uptoBulkEntries entries + 1
  | .held _ => 1
def uptoBulkAll {H : Type} : List (DataW H) → Nat
  | [] => 0
  | d :: r => uptoBulk d + uptoBulkAll r
def uptoBulkEntries {H : Type} : List (Lit × DataW H) → Nat
  | [] => 0
  | x :: r => uptoBulkEntry x + uptoBulkEntries r
def uptoBulkEntry {H : Type} : Lit × DataW H → Nat
  | (.string bytes, d) => bytes.length + uptoBulk d + 1
  | (_, d) => uptoBulk d + 1
 end
def uptoSmall : (H : Type) → List (DataW H) → Bool := fun _ ds => decide (uptoBulkAll ds ≤ 1048576)
def OpenSpec.upto (s : _root_.Go.ChangeSpec) : _root_.Go.OpenSpec := { _root_.Go.OpenSpec.ofChange s with cond := some uptoSmall }

/-- 'laws.FnItemValid', WHERE WHAT IT READS IS OF BULK AT MOST 1048576: true; the input reads as it did. -/
def fnItemValidUptoRow : OpenClaim := { program := "ytomalmehnidhkaa", sum := "7159b078652847239a706d080805d64f65a34ba1aaf50d472604f978f79c013c", func := "loop.example/feedbridge/laws.FnItemValid", spec := "fnItemValid", apart := false, narrowed := true }
def FnItemValidUptoSaid : Prop := fnItemValidUptoRow.holds Try.pinned (OpenSpec.upto fnItemValidSpec)

/-- 'laws.FnItemText', WHERE WHAT IT READS IS OF BULK AT MOST 1048576: true; the input reads as it did. -/
def fnItemTextUptoRow : OpenClaim := { program := "ytomalmehnidhkaa", sum := "7159b078652847239a706d080805d64f65a34ba1aaf50d472604f978f79c013c", func := "loop.example/feedbridge/laws.FnItemText", spec := "fnItemText", apart := false, narrowed := true }
def FnItemTextUptoSaid : Prop := fnItemTextUptoRow.holds Try.pinned (OpenSpec.upto fnItemTextSpec)

/-- 'laws.FnReadItem', WHERE WHAT IT READS IS OF BULK AT MOST 1048576: true; the input reads as it did. -/
def fnReadItemUptoRow : OpenClaim := { program := "ytomalmehnidhkaa", sum := "7159b078652847239a706d080805d64f65a34ba1aaf50d472604f978f79c013c", func := "loop.example/feedbridge/laws.FnReadItem", spec := "fnReadItem", apart := false, narrowed := true }
def FnReadItemUptoSaid : Prop := fnReadItemUptoRow.holds Try.pinned (OpenSpec.upto fnReadItemSpec)

/-- 'laws.FnExactItemValid', WHERE WHAT IT READS IS OF BULK AT MOST 1048576: true; the input reads as it did. -/
def fnExactItemValidUptoRow : OpenClaim := { program := "ytomalmehnidhkaa", sum := "7159b078652847239a706d080805d64f65a34ba1aaf50d472604f978f79c013c", func := "loop.example/feedbridge/laws.FnExactItemValid", spec := "fnExactItemValid", apart := false, narrowed := true }
def FnExactItemValidUptoSaid : Prop := fnExactItemValidUptoRow.holds Try.pinned (OpenSpec.upto fnExactItemValidSpec)

/-- 'laws.FnExactItemText', WHERE WHAT IT READS IS OF BULK AT MOST 1048576: true; the input reads as it did. -/
def fnExactItemTextUptoRow : OpenClaim := { program := "ytomalmehnidhkaa", sum := "7159b078652847239a706d080805d64f65a34ba1aaf50d472604f978f79c013c", func := "loop.example/feedbridge/laws.FnExactItemText", spec := "fnExactItemText", apart := false, narrowed := true }
def FnExactItemTextUptoSaid : Prop := fnExactItemTextUptoRow.holds Try.pinned (OpenSpec.upto fnExactItemTextSpec)

/-- 'laws.FnExactReadItem', WHERE WHAT IT READS IS OF BULK AT MOST 1048576: true; the input reads as it did. -/
def fnExactReadItemUptoRow : OpenClaim := { program := "ytomalmehnidhkaa", sum := "7159b078652847239a706d080805d64f65a34ba1aaf50d472604f978f79c013c", func := "loop.example/feedbridge/laws.FnExactReadItem", spec := "fnExactReadItem", apart := false, narrowed := true }
def FnExactReadItemUptoSaid : Prop := fnExactReadItemUptoRow.holds Try.pinned (OpenSpec.upto fnExactReadItemSpec)

end Rows
end Go.Proofs.Ytomalmehnidhkaa
