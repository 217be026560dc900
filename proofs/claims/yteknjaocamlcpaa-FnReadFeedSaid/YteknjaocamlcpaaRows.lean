/-
  No cell of these rows narrows 'for every input' (looked for: loops, veiled, ifaces, maps, wideKeys, modest, calm, conditions, laid).
  DERIVED. THE GIVEN ROWS OF THIS SEAT. 9 by the template 'for every input the law returns true; each argument reads behind the call as it read before'; 0 by the template 'total and deterministic' (their statements: YteknjaocamlcpaaTotals.lean).
  GIVEN WITH THE SEED: the statements are not yours to turn. If you find one false, say at which input.
  Laid BY PROGRAM, IN A SANDBOX (cutbox-rows.mjs): the forced cells as the released guide's own fill.sh prints them over the translation 6cf3f8d643cb33a0… (all of the seat's roots in one cut). By AI agents, Wed Nov 11 2026. No macro, syntax, notation, axiom, sorry.
-/
import Derived.Test.YteknjaocamlcpaaChecked
import GoSem.Claim
import GoSem.ClaimJoined
import GoSem.ClaimMapViews
import Derived.JoinedTies
import Derived.KernelRfl
namespace Go.Proofs.Yteknjaocamlcpaa
/- THE CELL 'sum', in the pinned program and in every row, IS THE sha256 OF THE DUMP (.gsa) THAT YteknjaocamlcpaaProg.lean LOADS. Nothing in Lean hashes anything: it is a label: what it is worth is what the hold of that sum in a sandbox is worth. -/
noncomputable def Try.pinned : Pinned := { name := "yteknjaocamlcpaa", sum := "6cf3f8d643cb33a01a4f68a6259897ee5196be96b1992ded7552999723fece93", checked := Try.checked }
namespace Rows
def none {H : Type} : Left H := { results := [], args := [] }

/-- 'laws.FnFeedValid': WHATEVER THE INPUT: true; the input reads as it did. -/
def fnFeedValidSpec : ChangeSpec := { name := "fnFeedValid", fn := fun _ => fun
  | [d] => { results := [.lit (.bool true)], args := [d] }
  | _ => none }
def fnFeedValidRow : OpenClaim := { program := "yteknjaocamlcpaa", sum := "6cf3f8d643cb33a01a4f68a6259897ee5196be96b1992ded7552999723fece93", func := "loop.example/feedbridge/laws.FnFeedValid", spec := "fnFeedValid", apart := false }
def FnFeedValidSaid : Prop := fnFeedValidRow.holds Try.pinned (OpenSpec.ofChange fnFeedValidSpec)

/-- ITS FALSE NEIGHBOUR: 'it returns false'. Refute it at one input. -/
def fnFeedValidWrong : ChangeSpec := { name := "fnFeedValid", fn := fun _ => fun
  | [d] => { results := [.lit (.bool false)], args := [d] }
  | _ => none }
def FnFeedValidWrongFalsely : Prop := fnFeedValidRow.holds Try.pinned (OpenSpec.ofChange fnFeedValidWrong)

/-- 'laws.FnFeedLines': WHATEVER THE INPUT: true; the input reads as it did. -/
def fnFeedLinesSpec : ChangeSpec := { name := "fnFeedLines", fn := fun _ => fun
  | [d] => { results := [.lit (.bool true)], args := [d] }
  | _ => none }
def fnFeedLinesRow : OpenClaim := { program := "yteknjaocamlcpaa", sum := "6cf3f8d643cb33a01a4f68a6259897ee5196be96b1992ded7552999723fece93", func := "loop.example/feedbridge/laws.FnFeedLines", spec := "fnFeedLines", apart := false }
def FnFeedLinesSaid : Prop := fnFeedLinesRow.holds Try.pinned (OpenSpec.ofChange fnFeedLinesSpec)

/-- ITS FALSE NEIGHBOUR: 'it returns false'. Refute it at one input. -/
def fnFeedLinesWrong : ChangeSpec := { name := "fnFeedLines", fn := fun _ => fun
  | [d] => { results := [.lit (.bool false)], args := [d] }
  | _ => none }
def FnFeedLinesWrongFalsely : Prop := fnFeedLinesRow.holds Try.pinned (OpenSpec.ofChange fnFeedLinesWrong)

/-- 'laws.FnReadFeed': WHATEVER THE INPUT: true; the input reads as it did. -/
def fnReadFeedSpec : ChangeSpec := { name := "fnReadFeed", fn := fun _ => fun
  | [d] => { results := [.lit (.bool true)], args := [d] }
  | _ => none }
def fnReadFeedRow : OpenClaim := { program := "yteknjaocamlcpaa", sum := "6cf3f8d643cb33a01a4f68a6259897ee5196be96b1992ded7552999723fece93", func := "loop.example/feedbridge/laws.FnReadFeed", spec := "fnReadFeed", apart := false }
def FnReadFeedSaid : Prop := fnReadFeedRow.holds Try.pinned (OpenSpec.ofChange fnReadFeedSpec)

/-- ITS FALSE NEIGHBOUR: 'it returns false'. Refute it at one input. -/
def fnReadFeedWrong : ChangeSpec := { name := "fnReadFeed", fn := fun _ => fun
  | [d] => { results := [.lit (.bool false)], args := [d] }
  | _ => none }
def FnReadFeedWrongFalsely : Prop := fnReadFeedRow.holds Try.pinned (OpenSpec.ofChange fnReadFeedWrong)

/-- 'laws.FnItemWith': WHATEVER THE INPUT: true; the input reads as it did. -/
def fnItemWithSpec : ChangeSpec := { name := "fnItemWith", fn := fun _ => fun
  | [d] => { results := [.lit (.bool true)], args := [d] }
  | _ => none }
def fnItemWithRow : OpenClaim := { program := "yteknjaocamlcpaa", sum := "6cf3f8d643cb33a01a4f68a6259897ee5196be96b1992ded7552999723fece93", func := "loop.example/feedbridge/laws.FnItemWith", spec := "fnItemWith", apart := false }
def FnItemWithSaid : Prop := fnItemWithRow.holds Try.pinned (OpenSpec.ofChange fnItemWithSpec)

/-- ITS FALSE NEIGHBOUR: 'it returns false'. Refute it at one input. -/
def fnItemWithWrong : ChangeSpec := { name := "fnItemWith", fn := fun _ => fun
  | [d] => { results := [.lit (.bool false)], args := [d] }
  | _ => none }
def FnItemWithWrongFalsely : Prop := fnItemWithRow.holds Try.pinned (OpenSpec.ofChange fnItemWithWrong)

/-- 'laws.FnExactFeedValid': WHATEVER THE INPUT: true; the input reads as it did. -/
def fnExactFeedValidSpec : ChangeSpec := { name := "fnExactFeedValid", fn := fun _ => fun
  | [d] => { results := [.lit (.bool true)], args := [d] }
  | _ => none }
def fnExactFeedValidRow : OpenClaim := { program := "yteknjaocamlcpaa", sum := "6cf3f8d643cb33a01a4f68a6259897ee5196be96b1992ded7552999723fece93", func := "loop.example/feedbridge/laws.FnExactFeedValid", spec := "fnExactFeedValid", apart := false }
def FnExactFeedValidSaid : Prop := fnExactFeedValidRow.holds Try.pinned (OpenSpec.ofChange fnExactFeedValidSpec)

/-- ITS FALSE NEIGHBOUR: 'it returns false'. Refute it at one input. -/
def fnExactFeedValidWrong : ChangeSpec := { name := "fnExactFeedValid", fn := fun _ => fun
  | [d] => { results := [.lit (.bool false)], args := [d] }
  | _ => none }
def FnExactFeedValidWrongFalsely : Prop := fnExactFeedValidRow.holds Try.pinned (OpenSpec.ofChange fnExactFeedValidWrong)

/-- 'laws.FnExactSortFeed': WHATEVER THE INPUT: true; the input reads as it did. -/
def fnExactSortFeedSpec : ChangeSpec := { name := "fnExactSortFeed", fn := fun _ => fun
  | [d] => { results := [.lit (.bool true)], args := [d] }
  | _ => none }
def fnExactSortFeedRow : OpenClaim := { program := "yteknjaocamlcpaa", sum := "6cf3f8d643cb33a01a4f68a6259897ee5196be96b1992ded7552999723fece93", func := "loop.example/feedbridge/laws.FnExactSortFeed", spec := "fnExactSortFeed", apart := false }
def FnExactSortFeedSaid : Prop := fnExactSortFeedRow.holds Try.pinned (OpenSpec.ofChange fnExactSortFeedSpec)

/-- ITS FALSE NEIGHBOUR: 'it returns false'. Refute it at one input. -/
def fnExactSortFeedWrong : ChangeSpec := { name := "fnExactSortFeed", fn := fun _ => fun
  | [d] => { results := [.lit (.bool false)], args := [d] }
  | _ => none }
def FnExactSortFeedWrongFalsely : Prop := fnExactSortFeedRow.holds Try.pinned (OpenSpec.ofChange fnExactSortFeedWrong)

/-- 'laws.FnExactFeedLines': WHATEVER THE INPUT: true; the input reads as it did. -/
def fnExactFeedLinesSpec : ChangeSpec := { name := "fnExactFeedLines", fn := fun _ => fun
  | [d] => { results := [.lit (.bool true)], args := [d] }
  | _ => none }
def fnExactFeedLinesRow : OpenClaim := { program := "yteknjaocamlcpaa", sum := "6cf3f8d643cb33a01a4f68a6259897ee5196be96b1992ded7552999723fece93", func := "loop.example/feedbridge/laws.FnExactFeedLines", spec := "fnExactFeedLines", apart := false }
def FnExactFeedLinesSaid : Prop := fnExactFeedLinesRow.holds Try.pinned (OpenSpec.ofChange fnExactFeedLinesSpec)

/-- ITS FALSE NEIGHBOUR: 'it returns false'. Refute it at one input. -/
def fnExactFeedLinesWrong : ChangeSpec := { name := "fnExactFeedLines", fn := fun _ => fun
  | [d] => { results := [.lit (.bool false)], args := [d] }
  | _ => none }
def FnExactFeedLinesWrongFalsely : Prop := fnExactFeedLinesRow.holds Try.pinned (OpenSpec.ofChange fnExactFeedLinesWrong)

/-- 'laws.FnExactReadFeed': WHATEVER THE INPUT: true; the input reads as it did. -/
def fnExactReadFeedSpec : ChangeSpec := { name := "fnExactReadFeed", fn := fun _ => fun
  | [d] => { results := [.lit (.bool true)], args := [d] }
  | _ => none }
def fnExactReadFeedRow : OpenClaim := { program := "yteknjaocamlcpaa", sum := "6cf3f8d643cb33a01a4f68a6259897ee5196be96b1992ded7552999723fece93", func := "loop.example/feedbridge/laws.FnExactReadFeed", spec := "fnExactReadFeed", apart := false }
def FnExactReadFeedSaid : Prop := fnExactReadFeedRow.holds Try.pinned (OpenSpec.ofChange fnExactReadFeedSpec)

/-- ITS FALSE NEIGHBOUR: 'it returns false'. Refute it at one input. -/
def fnExactReadFeedWrong : ChangeSpec := { name := "fnExactReadFeed", fn := fun _ => fun
  | [d] => { results := [.lit (.bool false)], args := [d] }
  | _ => none }
def FnExactReadFeedWrongFalsely : Prop := fnExactReadFeedRow.holds Try.pinned (OpenSpec.ofChange fnExactReadFeedWrong)

/-- 'laws.FnExactItemWith': WHATEVER THE INPUT: true; the input reads as it did. -/
def fnExactItemWithSpec : ChangeSpec := { name := "fnExactItemWith", fn := fun _ => fun
  | [d1, d2] => { results := [.lit (.bool true)], args := [d1, d2] }
  | _ => none }
def fnExactItemWithRow : OpenClaim := { program := "yteknjaocamlcpaa", sum := "6cf3f8d643cb33a01a4f68a6259897ee5196be96b1992ded7552999723fece93", func := "loop.example/feedbridge/laws.FnExactItemWith", spec := "fnExactItemWith", apart := false }
def FnExactItemWithSaid : Prop := fnExactItemWithRow.holds Try.pinned (OpenSpec.ofChange fnExactItemWithSpec)

/-- ITS FALSE NEIGHBOUR: 'it returns false'. Refute it at one input. -/
def fnExactItemWithWrong : ChangeSpec := { name := "fnExactItemWith", fn := fun _ => fun
  | [d1, d2] => { results := [.lit (.bool false)], args := [d1, d2] }
  | _ => none }
def FnExactItemWithWrongFalsely : Prop := fnExactItemWithRow.holds Try.pinned (OpenSpec.ofChange fnExactItemWithWrong)

/- THE SECOND FORM. 'bulk': how many values and letters a reading holds, each counted each time it is reached (what is shared counts as often as it is met; a slice's spare places count too). A statement '..UptoSaid' is the law's where the arguments, and the package variables that the reading takes, are together of bulk at most 1048576: NARROWER than '..Said'. Prove '..Said' where nothing that the law and all that it calls make is longer than what came in: it says more and counts as full. Else prove '..UptoSaid'. A law counts once. -/
mutual
def uptoBulk {H : Type} : DataW H → Nat
  | .lit (.string bytes) => bytes.length + 1
  | .lit _ => 1
  | .nil => 1
  | .ptr d => uptoBulk d + 1
  | .slice elems spare => uptoBulkAll elems + uptoBulkAll spare + 1
  | .agg parts => uptoBulkAll parts + 1
  | .iface _ d => uptoBulk d + 1
  | .map entries => uptoBulkEntries entries + 1
  | .held _ => 1
def uptoBulkAll {H : Type} : List (DataW H) → Nat
  | [] => 0
  | d :: r => uptoBulk d + uptoBulkAll r
def uptoBulkEntries {H : Type} : List (Lit × DataW H) → Nat
  | [] => 0
  | x :: r => uptoBulkEntry x + uptoBulkEntries r
def uptoBulkEntry {H : Type} : Lit × DataW H → Nat
  | (.string bytes, d) => bytes.length + uptoBulk d + 1
  | (_, d) => uptoBulk d + 1
 end
def uptoSmall : (H : Type) → List (DataW H) → Bool := fun _ ds => decide (uptoBulkAll ds ≤ 1048576)
def OpenSpec.upto (s : _root_.Go.ChangeSpec) : _root_.Go.OpenSpec := { _root_.Go.OpenSpec.ofChange s with cond := some uptoSmall }

/-- 'laws.FnFeedValid', WHERE WHAT IT READS IS OF BULK AT MOST 1048576: true; the input reads as it did. -/
def fnFeedValidUptoRow : OpenClaim := { program := "yteknjaocamlcpaa", sum := "6cf3f8d643cb33a01a4f68a6259897ee5196be96b1992ded7552999723fece93", func := "loop.example/feedbridge/laws.FnFeedValid", spec := "fnFeedValid", apart := false, narrowed := true }
def FnFeedValidUptoSaid : Prop := fnFeedValidUptoRow.holds Try.pinned (OpenSpec.upto fnFeedValidSpec)

/-- 'laws.FnFeedLines', WHERE WHAT IT READS IS OF BULK AT MOST 1048576: true; the input reads as it did. -/
def fnFeedLinesUptoRow : OpenClaim := { program := "yteknjaocamlcpaa", sum := "6cf3f8d643cb33a01a4f68a6259897ee5196be96b1992ded7552999723fece93", func := "loop.example/feedbridge/laws.FnFeedLines", spec := "fnFeedLines", apart := false, narrowed := true }
def FnFeedLinesUptoSaid : Prop := fnFeedLinesUptoRow.holds Try.pinned (OpenSpec.upto fnFeedLinesSpec)

/-- 'laws.FnReadFeed', WHERE WHAT IT READS IS OF BULK AT MOST 1048576: true; the input reads as it did. -/
def fnReadFeedUptoRow : OpenClaim := { program := "yteknjaocamlcpaa", sum := "6cf3f8d643cb33a01a4f68a6259897ee5196be96b1992ded7552999723fece93", func := "loop.example/feedbridge/laws.FnReadFeed", spec := "fnReadFeed", apart := false, narrowed := true }
def FnReadFeedUptoSaid : Prop := fnReadFeedUptoRow.holds Try.pinned (OpenSpec.upto fnReadFeedSpec)

/-- 'laws.FnItemWith', WHERE WHAT IT READS IS OF BULK AT MOST 1048576: true; the input reads as it did. -/
def fnItemWithUptoRow : OpenClaim := { program := "yteknjaocamlcpaa", sum := "6cf3f8d643cb33a01a4f68a6259897ee5196be96b1992ded7552999723fece93", func := "loop.example/feedbridge/laws.FnItemWith", spec := "fnItemWith", apart := false, narrowed := true }
def FnItemWithUptoSaid : Prop := fnItemWithUptoRow.holds Try.pinned (OpenSpec.upto fnItemWithSpec)

/-- 'laws.FnExactFeedValid', WHERE WHAT IT READS IS OF BULK AT MOST 1048576: true; the input reads as it did. -/
def fnExactFeedValidUptoRow : OpenClaim := { program := "yteknjaocamlcpaa", sum := "6cf3f8d643cb33a01a4f68a6259897ee5196be96b1992ded7552999723fece93", func := "loop.example/feedbridge/laws.FnExactFeedValid", spec := "fnExactFeedValid", apart := false, narrowed := true }
def FnExactFeedValidUptoSaid : Prop := fnExactFeedValidUptoRow.holds Try.pinned (OpenSpec.upto fnExactFeedValidSpec)

/-- 'laws.FnExactSortFeed', WHERE WHAT IT READS IS OF BULK AT MOST 1048576: true; the input reads as it did. -/
def fnExactSortFeedUptoRow : OpenClaim := { program := "yteknjaocamlcpaa", sum := "6cf3f8d643cb33a01a4f68a6259897ee5196be96b1992ded7552999723fece93", func := "loop.example/feedbridge/laws.FnExactSortFeed", spec := "fnExactSortFeed", apart := false, narrowed := true }
def FnExactSortFeedUptoSaid : Prop := fnExactSortFeedUptoRow.holds Try.pinned (OpenSpec.upto fnExactSortFeedSpec)

/-- 'laws.FnExactFeedLines', WHERE WHAT IT READS IS OF BULK AT MOST 1048576: true; the input reads as it did. -/
def fnExactFeedLinesUptoRow : OpenClaim := { program := "yteknjaocamlcpaa", sum := "6cf3f8d643cb33a01a4f68a6259897ee5196be96b1992ded7552999723fece93", func := "loop.example/feedbridge/laws.FnExactFeedLines", spec := "fnExactFeedLines", apart := false, narrowed := true }
def FnExactFeedLinesUptoSaid : Prop := fnExactFeedLinesUptoRow.holds Try.pinned (OpenSpec.upto fnExactFeedLinesSpec)

/-- 'laws.FnExactReadFeed', WHERE WHAT IT READS IS OF BULK AT MOST 1048576: true; the input reads as it did. -/
def fnExactReadFeedUptoRow : OpenClaim := { program := "yteknjaocamlcpaa", sum := "6cf3f8d643cb33a01a4f68a6259897ee5196be96b1992ded7552999723fece93", func := "loop.example/feedbridge/laws.FnExactReadFeed", spec := "fnExactReadFeed", apart := false, narrowed := true }
def FnExactReadFeedUptoSaid : Prop := fnExactReadFeedUptoRow.holds Try.pinned (OpenSpec.upto fnExactReadFeedSpec)

/-- 'laws.FnExactItemWith', WHERE WHAT IT READS IS OF BULK AT MOST 1048576: true; the input reads as it did. -/
def fnExactItemWithUptoRow : OpenClaim := { program := "yteknjaocamlcpaa", sum := "6cf3f8d643cb33a01a4f68a6259897ee5196be96b1992ded7552999723fece93", func := "loop.example/feedbridge/laws.FnExactItemWith", spec := "fnExactItemWith", apart := false, narrowed := true }
def FnExactItemWithUptoSaid : Prop := fnExactItemWithUptoRow.holds Try.pinned (OpenSpec.upto fnExactItemWithSpec)

end Rows
end Go.Proofs.Yteknjaocamlcpaa
