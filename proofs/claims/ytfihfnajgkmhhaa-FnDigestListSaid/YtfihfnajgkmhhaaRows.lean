/-
  No cell of these rows narrows 'for every input' (looked for: loops, veiled, ifaces, maps, wideKeys, modest, calm, conditions, laid).
  DERIVED. THE GIVEN ROWS OF THIS SEAT. 6 by the template 'for every input the law returns true; each argument reads behind the call as it read before'; 0 by the template 'total and deterministic' (their statements: YtfihfnajgkmhhaaTotals.lean).
  GIVEN WITH THE SEED: the statements are not yours to turn. If you find one false, say at which input.
  Laid BY PROGRAM, IN A SANDBOX (cutbox-rows.mjs): the forced cells as the released guide's own fill.sh prints them over the translation 6a3308ada41c9853… (all of the seat's roots in one cut). By AI agents, Wed Nov 11 2026. No macro, syntax, notation, axiom, sorry.
-/
import Derived.Test.YtfihfnajgkmhhaaChecked
import GoSem.Claim
import GoSem.ClaimJoined
import GoSem.ClaimMapViews
import Derived.JoinedTies
import Derived.KernelRfl
namespace Go.Proofs.Ytfihfnajgkmhhaa
/- THE CELL 'sum', in the pinned program and in every row, IS THE sha256 OF THE DUMP (.gsa) THAT YtfihfnajgkmhhaaProg.lean LOADS. Nothing in Lean hashes anything: it is a label: what it is worth is what the hold of that sum in a sandbox is worth. -/
noncomputable def Try.pinned : Pinned := { name := "ytfihfnajgkmhhaa", sum := "6a3308ada41c985301cb7f5cd0b1a78a74d418d121ded12d177ac484387bf7dc", checked := Try.checked }
namespace Rows
def none {H : Type} : Left H := { results := [], args := [] }

/-- 'laws.FnDigestOf': WHATEVER THE INPUT: true; the input reads as it did. -/
def fnDigestOfSpec : ChangeSpec := { name := "fnDigestOf", fn := fun _ => fun
  | [d] => { results := [.lit (.bool true)], args := [d] }
  | _ => none }
def fnDigestOfRow : OpenClaim := { program := "ytfihfnajgkmhhaa", sum := "6a3308ada41c985301cb7f5cd0b1a78a74d418d121ded12d177ac484387bf7dc", func := "loop.example/feedbridge/laws.FnDigestOf", spec := "fnDigestOf", apart := false }
def FnDigestOfSaid : Prop := fnDigestOfRow.holds Try.pinned (OpenSpec.ofChange fnDigestOfSpec)

/-- ITS FALSE NEIGHBOUR: 'it returns false'. Refute it at one input. -/
def fnDigestOfWrong : ChangeSpec := { name := "fnDigestOf", fn := fun _ => fun
  | [d] => { results := [.lit (.bool false)], args := [d] }
  | _ => none }
def FnDigestOfWrongFalsely : Prop := fnDigestOfRow.holds Try.pinned (OpenSpec.ofChange fnDigestOfWrong)

/-- 'laws.FnDigestMore': WHATEVER THE INPUT: true; the input reads as it did. -/
def fnDigestMoreSpec : ChangeSpec := { name := "fnDigestMore", fn := fun _ => fun
  | [d] => { results := [.lit (.bool true)], args := [d] }
  | _ => none }
def fnDigestMoreRow : OpenClaim := { program := "ytfihfnajgkmhhaa", sum := "6a3308ada41c985301cb7f5cd0b1a78a74d418d121ded12d177ac484387bf7dc", func := "loop.example/feedbridge/laws.FnDigestMore", spec := "fnDigestMore", apart := false }
def FnDigestMoreSaid : Prop := fnDigestMoreRow.holds Try.pinned (OpenSpec.ofChange fnDigestMoreSpec)

/-- ITS FALSE NEIGHBOUR: 'it returns false'. Refute it at one input. -/
def fnDigestMoreWrong : ChangeSpec := { name := "fnDigestMore", fn := fun _ => fun
  | [d] => { results := [.lit (.bool false)], args := [d] }
  | _ => none }
def FnDigestMoreWrongFalsely : Prop := fnDigestMoreRow.holds Try.pinned (OpenSpec.ofChange fnDigestMoreWrong)

/-- 'laws.FnDigestList': WHATEVER THE INPUT: true; the input reads as it did. -/
def fnDigestListSpec : ChangeSpec := { name := "fnDigestList", fn := fun _ => fun
  | [d] => { results := [.lit (.bool true)], args := [d] }
  | _ => none }
def fnDigestListRow : OpenClaim := { program := "ytfihfnajgkmhhaa", sum := "6a3308ada41c985301cb7f5cd0b1a78a74d418d121ded12d177ac484387bf7dc", func := "loop.example/feedbridge/laws.FnDigestList", spec := "fnDigestList", apart := false }
def FnDigestListSaid : Prop := fnDigestListRow.holds Try.pinned (OpenSpec.ofChange fnDigestListSpec)

/-- ITS FALSE NEIGHBOUR: 'it returns false'. Refute it at one input. -/
def fnDigestListWrong : ChangeSpec := { name := "fnDigestList", fn := fun _ => fun
  | [d] => { results := [.lit (.bool false)], args := [d] }
  | _ => none }
def FnDigestListWrongFalsely : Prop := fnDigestListRow.holds Try.pinned (OpenSpec.ofChange fnDigestListWrong)

/-- 'laws.FnExactDigestOf': WHATEVER THE INPUT: true; the input reads as it did. -/
def fnExactDigestOfSpec : ChangeSpec := { name := "fnExactDigestOf", fn := fun _ => fun
  | [d] => { results := [.lit (.bool true)], args := [d] }
  | _ => none }
def fnExactDigestOfRow : OpenClaim := { program := "ytfihfnajgkmhhaa", sum := "6a3308ada41c985301cb7f5cd0b1a78a74d418d121ded12d177ac484387bf7dc", func := "loop.example/feedbridge/laws.FnExactDigestOf", spec := "fnExactDigestOf", apart := false }
def FnExactDigestOfSaid : Prop := fnExactDigestOfRow.holds Try.pinned (OpenSpec.ofChange fnExactDigestOfSpec)

/-- ITS FALSE NEIGHBOUR: 'it returns false'. Refute it at one input. -/
def fnExactDigestOfWrong : ChangeSpec := { name := "fnExactDigestOf", fn := fun _ => fun
  | [d] => { results := [.lit (.bool false)], args := [d] }
  | _ => none }
def FnExactDigestOfWrongFalsely : Prop := fnExactDigestOfRow.holds Try.pinned (OpenSpec.ofChange fnExactDigestOfWrong)

/-- 'laws.FnExactDigestMore': WHATEVER THE INPUT: true; the input reads as it did. -/
def fnExactDigestMoreSpec : ChangeSpec := { name := "fnExactDigestMore", fn := fun _ => fun
  | [d1, d2] => { results := [.lit (.bool true)], args := [d1, d2] }
  | _ => none }
def fnExactDigestMoreRow : OpenClaim := { program := "ytfihfnajgkmhhaa", sum := "6a3308ada41c985301cb7f5cd0b1a78a74d418d121ded12d177ac484387bf7dc", func := "loop.example/feedbridge/laws.FnExactDigestMore", spec := "fnExactDigestMore", apart := false }
def FnExactDigestMoreSaid : Prop := fnExactDigestMoreRow.holds Try.pinned (OpenSpec.ofChange fnExactDigestMoreSpec)

/-- ITS FALSE NEIGHBOUR: 'it returns false'. Refute it at one input. -/
def fnExactDigestMoreWrong : ChangeSpec := { name := "fnExactDigestMore", fn := fun _ => fun
  | [d1, d2] => { results := [.lit (.bool false)], args := [d1, d2] }
  | _ => none }
def FnExactDigestMoreWrongFalsely : Prop := fnExactDigestMoreRow.holds Try.pinned (OpenSpec.ofChange fnExactDigestMoreWrong)

/-- 'laws.FnExactDigestList': WHATEVER THE INPUT: true; the input reads as it did. -/
def fnExactDigestListSpec : ChangeSpec := { name := "fnExactDigestList", fn := fun _ => fun
  | [d] => { results := [.lit (.bool true)], args := [d] }
  | _ => none }
def fnExactDigestListRow : OpenClaim := { program := "ytfihfnajgkmhhaa", sum := "6a3308ada41c985301cb7f5cd0b1a78a74d418d121ded12d177ac484387bf7dc", func := "loop.example/feedbridge/laws.FnExactDigestList", spec := "fnExactDigestList", apart := false }
def FnExactDigestListSaid : Prop := fnExactDigestListRow.holds Try.pinned (OpenSpec.ofChange fnExactDigestListSpec)

/-- ITS FALSE NEIGHBOUR: 'it returns false'. Refute it at one input. -/
def fnExactDigestListWrong : ChangeSpec := { name := "fnExactDigestList", fn := fun _ => fun
  | [d] => { results := [.lit (.bool false)], args := [d] }
  | _ => none }
def FnExactDigestListWrongFalsely : Prop := fnExactDigestListRow.holds Try.pinned (OpenSpec.ofChange fnExactDigestListWrong)

/- THE SECOND FORM. 'bulk': how many values and letters a reading holds, each counted each time it is reached (what is shared counts as often as it is met; a slice's spare places count too). A statement '..UptoSaid' is the law's where the arguments, and the package variables that the reading takes, are together of bulk at most 1048576: NARROWER than '..Said'. Prove '..Said' where nothing that the law and all that it calls make is longer than what came in: it says more and counts as full. Else prove '..UptoSaid'. A law counts once. -/
mutual
def uptoBulk {H : Type} : DataW H → Nat
  | .lit (.string bytes) => bytes.length + 1
  | .lit _ => 1
  | .nil => 1
  | .ptr d => uptoBulk d + 1
  | .slice elems spare => uptoBulkAll elems + uptoBulkAll spare + 1
  | .agg parts => uptoBulkAll parts + 1
  | .iface _ d => uptoBulk d + 1
  | .map entries => uptoBulkEntries entries + 1
  | .held _ => 1
def uptoBulkAll {H : Type} : List (DataW H) → Nat
  | [] => 0
  | d :: r => uptoBulk d + uptoBulkAll r
def uptoBulkEntries {H : Type} : List (Lit × DataW H) → Nat
  | [] => 0
  | x :: r => uptoBulkEntry x + uptoBulkEntries r
def uptoBulkEntry {H : Type} : Lit × DataW H → Nat
  | (.string bytes, d) => bytes.length + uptoBulk d + 1
  | (_, d) => uptoBulk d + 1
 end
def uptoSmall : (H : Type) → List (DataW H) → Bool := fun _ ds => decide (uptoBulkAll ds ≤ 1048576)
def OpenSpec.upto (s : _root_.Go.ChangeSpec) : _root_.Go.OpenSpec := { _root_.Go.OpenSpec.ofChange s with cond := some uptoSmall }

/-- 'laws.FnDigestOf', WHERE WHAT IT READS IS OF BULK AT MOST 1048576: true; the input reads as it did. -/
def fnDigestOfUptoRow : OpenClaim := { program := "ytfihfnajgkmhhaa", sum := "6a3308ada41c985301cb7f5cd0b1a78a74d418d121ded12d177ac484387bf7dc", func := "loop.example/feedbridge/laws.FnDigestOf", spec := "fnDigestOf", apart := false, narrowed := true }
def FnDigestOfUptoSaid : Prop := fnDigestOfUptoRow.holds Try.pinned (OpenSpec.upto fnDigestOfSpec)

/-- 'laws.FnDigestMore', WHERE WHAT IT READS IS OF BULK AT MOST 1048576: true; the input reads as it did. -/
def fnDigestMoreUptoRow : OpenClaim := { program := "ytfihfnajgkmhhaa", sum := "6a3308ada41c985301cb7f5cd0b1a78a74d418d121ded12d177ac484387bf7dc", func := "loop.example/feedbridge/laws.FnDigestMore", spec := "fnDigestMore", apart := false, narrowed := true }
def FnDigestMoreUptoSaid : Prop := fnDigestMoreUptoRow.holds Try.pinned (OpenSpec.upto fnDigestMoreSpec)

/-- 'laws.FnDigestList', WHERE WHAT IT READS IS OF BULK AT MOST 1048576: true; the input reads as it did. -/
def fnDigestListUptoRow : OpenClaim := { program := "ytfihfnajgkmhhaa", sum := "6a3308ada41c985301cb7f5cd0b1a78a74d418d121ded12d177ac484387bf7dc", func := "loop.example/feedbridge/laws.FnDigestList", spec := "fnDigestList", apart := false, narrowed := true }
def FnDigestListUptoSaid : Prop := fnDigestListUptoRow.holds Try.pinned (OpenSpec.upto fnDigestListSpec)

/-- 'laws.FnExactDigestOf', WHERE WHAT IT READS IS OF BULK AT MOST 1048576: true; the input reads as it did. -/
def fnExactDigestOfUptoRow : OpenClaim := { program := "ytfihfnajgkmhhaa", sum := "6a3308ada41c985301cb7f5cd0b1a78a74d418d121ded12d177ac484387bf7dc", func := "loop.example/feedbridge/laws.FnExactDigestOf", spec := "fnExactDigestOf", apart := false, narrowed := true }
def FnExactDigestOfUptoSaid : Prop := fnExactDigestOfUptoRow.holds Try.pinned (OpenSpec.upto fnExactDigestOfSpec)

/-- 'laws.FnExactDigestMore', WHERE WHAT IT READS IS OF BULK AT MOST 1048576: true; the input reads as it did. -/
def fnExactDigestMoreUptoRow : OpenClaim := { program := "ytfihfnajgkmhhaa", sum := "6a3308ada41c985301cb7f5cd0b1a78a74d418d121ded12d177ac484387bf7dc", func := "loop.example/feedbridge/laws.FnExactDigestMore", spec := "fnExactDigestMore", apart := false, narrowed := true }
def FnExactDigestMoreUptoSaid : Prop := fnExactDigestMoreUptoRow.holds Try.pinned (OpenSpec.upto fnExactDigestMoreSpec)

/-- 'laws.FnExactDigestList', WHERE WHAT IT READS IS OF BULK AT MOST 1048576: true; the input reads as it did. -/
def fnExactDigestListUptoRow : OpenClaim := { program := "ytfihfnajgkmhhaa", sum := "6a3308ada41c985301cb7f5cd0b1a78a74d418d121ded12d177ac484387bf7dc", func := "loop.example/feedbridge/laws.FnExactDigestList", spec := "fnExactDigestList", apart := false, narrowed := true }
def FnExactDigestListUptoSaid : Prop := fnExactDigestListUptoRow.holds Try.pinned (OpenSpec.upto fnExactDigestListSpec)

end Rows
end Go.Proofs.Ytfihfnajgkmhhaa
