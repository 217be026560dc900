/-
  No cell of these rows narrows 'for every input' (looked for: loops, veiled, ifaces, maps, wideKeys, modest, calm, conditions, laid).
  DERIVED. THE GIVEN ROWS OF THIS SEAT. 8 by the template 'for every input the law returns true; each argument reads behind the call as it read before'; 0 by the template 'total and deterministic' (their statements: YtiacpbahjfellaaTotals.lean).
  GIVEN WITH THE SEED: the statements are not yours to turn. If you find one false, say at which input.
  Laid BY PROGRAM, IN A SANDBOX (cutbox-rows.mjs): the forced cells as the released guide's own fill.sh prints them over the translation 91b936a2511c15b7… (all of the seat's roots in one cut). By AI agents, Wed Nov 11 2026. No macro, syntax, notation, axiom, sorry.
-/
import Derived.Test.YtiacpbahjfellaaChecked
import GoSem.Claim
import GoSem.ClaimJoined
import GoSem.ClaimMapViews
import Derived.JoinedTies
import Derived.KernelRfl
namespace Go.Proofs.Ytiacpbahjfellaa
/- THE CELL 'sum', in the pinned program and in every row, IS THE sha256 OF THE DUMP (.gsa) THAT YtiacpbahjfellaaProg.lean LOADS. Nothing in Lean hashes anything: it is a label: what it is worth is what the hold of that sum in a sandbox is worth. -/
noncomputable def Try.pinned : Pinned := { name := "ytiacpbahjfellaa", sum := "91b936a2511c15b70194c4448a4caaaa051b175740bbb6bdb79be97a3e91ef91", checked := Try.checked }
namespace Rows
def none {H : Type} : Left H := { results := [], args := [] }

/-- 'laws.FnTextValid': WHATEVER THE INPUT: true; the input reads as it did. -/
def fnTextValidSpec : ChangeSpec := { name := "fnTextValid", fn := fun _ => fun
  | [d] => { results := [.lit (.bool true)], args := [d] }
  | _ => none }
def fnTextValidRow : OpenClaim := { program := "ytiacpbahjfellaa", sum := "91b936a2511c15b70194c4448a4caaaa051b175740bbb6bdb79be97a3e91ef91", func := "loop.example/feedbridge/laws.FnTextValid", spec := "fnTextValid", apart := false }
def FnTextValidSaid : Prop := fnTextValidRow.holds Try.pinned (OpenSpec.ofChange fnTextValidSpec)

/-- ITS FALSE NEIGHBOUR: 'it returns false'. Refute it at one input. -/
def fnTextValidWrong : ChangeSpec := { name := "fnTextValid", fn := fun _ => fun
  | [d] => { results := [.lit (.bool false)], args := [d] }
  | _ => none }
def FnTextValidWrongFalsely : Prop := fnTextValidRow.holds Try.pinned (OpenSpec.ofChange fnTextValidWrong)

/-- 'laws.FnEscapeText': WHATEVER THE INPUT: true; the input reads as it did. -/
def fnEscapeTextSpec : ChangeSpec := { name := "fnEscapeText", fn := fun _ => fun
  | [d] => { results := [.lit (.bool true)], args := [d] }
  | _ => none }
def fnEscapeTextRow : OpenClaim := { program := "ytiacpbahjfellaa", sum := "91b936a2511c15b70194c4448a4caaaa051b175740bbb6bdb79be97a3e91ef91", func := "loop.example/feedbridge/laws.FnEscapeText", spec := "fnEscapeText", apart := false }
def FnEscapeTextSaid : Prop := fnEscapeTextRow.holds Try.pinned (OpenSpec.ofChange fnEscapeTextSpec)

/-- ITS FALSE NEIGHBOUR: 'it returns false'. Refute it at one input. -/
def fnEscapeTextWrong : ChangeSpec := { name := "fnEscapeText", fn := fun _ => fun
  | [d] => { results := [.lit (.bool false)], args := [d] }
  | _ => none }
def FnEscapeTextWrongFalsely : Prop := fnEscapeTextRow.holds Try.pinned (OpenSpec.ofChange fnEscapeTextWrong)

/-- 'laws.FnUnescapeText': WHATEVER THE INPUT: true; the input reads as it did. -/
def fnUnescapeTextSpec : ChangeSpec := { name := "fnUnescapeText", fn := fun _ => fun
  | [d] => { results := [.lit (.bool true)], args := [d] }
  | _ => none }
def fnUnescapeTextRow : OpenClaim := { program := "ytiacpbahjfellaa", sum := "91b936a2511c15b70194c4448a4caaaa051b175740bbb6bdb79be97a3e91ef91", func := "loop.example/feedbridge/laws.FnUnescapeText", spec := "fnUnescapeText", apart := false }
def FnUnescapeTextSaid : Prop := fnUnescapeTextRow.holds Try.pinned (OpenSpec.ofChange fnUnescapeTextSpec)

/-- ITS FALSE NEIGHBOUR: 'it returns false'. Refute it at one input. -/
def fnUnescapeTextWrong : ChangeSpec := { name := "fnUnescapeText", fn := fun _ => fun
  | [d] => { results := [.lit (.bool false)], args := [d] }
  | _ => none }
def FnUnescapeTextWrongFalsely : Prop := fnUnescapeTextRow.holds Try.pinned (OpenSpec.ofChange fnUnescapeTextWrong)

/-- 'laws.FnPlainOf': WHATEVER THE INPUT: true; the input reads as it did. -/
def fnPlainOfSpec : ChangeSpec := { name := "fnPlainOf", fn := fun _ => fun
  | [d] => { results := [.lit (.bool true)], args := [d] }
  | _ => none }
def fnPlainOfRow : OpenClaim := { program := "ytiacpbahjfellaa", sum := "91b936a2511c15b70194c4448a4caaaa051b175740bbb6bdb79be97a3e91ef91", func := "loop.example/feedbridge/laws.FnPlainOf", spec := "fnPlainOf", apart := false }
def FnPlainOfSaid : Prop := fnPlainOfRow.holds Try.pinned (OpenSpec.ofChange fnPlainOfSpec)

/-- ITS FALSE NEIGHBOUR: 'it returns false'. Refute it at one input. -/
def fnPlainOfWrong : ChangeSpec := { name := "fnPlainOf", fn := fun _ => fun
  | [d] => { results := [.lit (.bool false)], args := [d] }
  | _ => none }
def FnPlainOfWrongFalsely : Prop := fnPlainOfRow.holds Try.pinned (OpenSpec.ofChange fnPlainOfWrong)

/-- 'laws.FnExactTextValid': WHATEVER THE INPUT: true; the input reads as it did. -/
def fnExactTextValidSpec : ChangeSpec := { name := "fnExactTextValid", fn := fun _ => fun
  | [d] => { results := [.lit (.bool true)], args := [d] }
  | _ => none }
def fnExactTextValidRow : OpenClaim := { program := "ytiacpbahjfellaa", sum := "91b936a2511c15b70194c4448a4caaaa051b175740bbb6bdb79be97a3e91ef91", func := "loop.example/feedbridge/laws.FnExactTextValid", spec := "fnExactTextValid", apart := false }
def FnExactTextValidSaid : Prop := fnExactTextValidRow.holds Try.pinned (OpenSpec.ofChange fnExactTextValidSpec)

/-- ITS FALSE NEIGHBOUR: 'it returns false'. Refute it at one input. -/
def fnExactTextValidWrong : ChangeSpec := { name := "fnExactTextValid", fn := fun _ => fun
  | [d] => { results := [.lit (.bool false)], args := [d] }
  | _ => none }
def FnExactTextValidWrongFalsely : Prop := fnExactTextValidRow.holds Try.pinned (OpenSpec.ofChange fnExactTextValidWrong)

/-- 'laws.FnExactEscapeText': WHATEVER THE INPUT: true; the input reads as it did. -/
def fnExactEscapeTextSpec : ChangeSpec := { name := "fnExactEscapeText", fn := fun _ => fun
  | [d] => { results := [.lit (.bool true)], args := [d] }
  | _ => none }
def fnExactEscapeTextRow : OpenClaim := { program := "ytiacpbahjfellaa", sum := "91b936a2511c15b70194c4448a4caaaa051b175740bbb6bdb79be97a3e91ef91", func := "loop.example/feedbridge/laws.FnExactEscapeText", spec := "fnExactEscapeText", apart := false }
def FnExactEscapeTextSaid : Prop := fnExactEscapeTextRow.holds Try.pinned (OpenSpec.ofChange fnExactEscapeTextSpec)

/-- ITS FALSE NEIGHBOUR: 'it returns false'. Refute it at one input. -/
def fnExactEscapeTextWrong : ChangeSpec := { name := "fnExactEscapeText", fn := fun _ => fun
  | [d] => { results := [.lit (.bool false)], args := [d] }
  | _ => none }
def FnExactEscapeTextWrongFalsely : Prop := fnExactEscapeTextRow.holds Try.pinned (OpenSpec.ofChange fnExactEscapeTextWrong)

/-- 'laws.FnExactUnescapeText': WHATEVER THE INPUT: true; the input reads as it did. -/
def fnExactUnescapeTextSpec : ChangeSpec := { name := "fnExactUnescapeText", fn := fun _ => fun
  | [d] => { results := [.lit (.bool true)], args := [d] }
  | _ => none }
def fnExactUnescapeTextRow : OpenClaim := { program := "ytiacpbahjfellaa", sum := "91b936a2511c15b70194c4448a4caaaa051b175740bbb6bdb79be97a3e91ef91", func := "loop.example/feedbridge/laws.FnExactUnescapeText", spec := "fnExactUnescapeText", apart := false }
def FnExactUnescapeTextSaid : Prop := fnExactUnescapeTextRow.holds Try.pinned (OpenSpec.ofChange fnExactUnescapeTextSpec)

/-- ITS FALSE NEIGHBOUR: 'it returns false'. Refute it at one input. -/
def fnExactUnescapeTextWrong : ChangeSpec := { name := "fnExactUnescapeText", fn := fun _ => fun
  | [d] => { results := [.lit (.bool false)], args := [d] }
  | _ => none }
def FnExactUnescapeTextWrongFalsely : Prop := fnExactUnescapeTextRow.holds Try.pinned (OpenSpec.ofChange fnExactUnescapeTextWrong)

/-- 'laws.FnExactPlainOf': WHATEVER THE INPUT: true; the input reads as it did. -/
def fnExactPlainOfSpec : ChangeSpec := { name := "fnExactPlainOf", fn := fun _ => fun
  | [d] => { results := [.lit (.bool true)], args := [d] }
  | _ => none }
def fnExactPlainOfRow : OpenClaim := { program := "ytiacpbahjfellaa", sum := "91b936a2511c15b70194c4448a4caaaa051b175740bbb6bdb79be97a3e91ef91", func := "loop.example/feedbridge/laws.FnExactPlainOf", spec := "fnExactPlainOf", apart := false }
def FnExactPlainOfSaid : Prop := fnExactPlainOfRow.holds Try.pinned (OpenSpec.ofChange fnExactPlainOfSpec)

/-- ITS FALSE NEIGHBOUR: 'it returns false'. Refute it at one input. -/
def fnExactPlainOfWrong : ChangeSpec := { name := "fnExactPlainOf", fn := fun _ => fun
  | [d] => { results := [.lit (.bool false)], args := [d] }
  | _ => none }
def FnExactPlainOfWrongFalsely : Prop := fnExactPlainOfRow.holds Try.pinned (OpenSpec.ofChange fnExactPlainOfWrong)

/- THE SECOND FORM. 'bulk': how many values and letters a reading holds, each counted each time it is reached (what is shared counts as often as it is met; a slice's spare places count too). A statement '..UptoSaid' is the law's where the arguments, and the package variables that the reading takes, are together of bulk at most 1048576: NARROWER than '..Said'. Prove '..Said' where nothing that the law and all that it calls make is longer than what came in: it says more and counts as full. Else prove '..UptoSaid'. A law counts once. -/
mutual
def uptoBulk {H : Type} : DataW H → Nat
  | .lit (.string bytes) => bytes.length + 1
  | .lit _ => 1
  | .nil => 1
  | .ptr d => uptoBulk d + 1
  | .slice elems spare => uptoBulkAll elems + uptoBulkAll spare + 1
  | .agg parts => uptoBulkAll parts + 1
  | .iface _ d => uptoBulk d + 1
  | .map entries => uptoBulkEntries entries + 1
  | .held _ => 1
def uptoBulkAll {H : Type} : List (DataW H) → Nat
  | [] => 0
  | d :: r => uptoBulk d + uptoBulkAll r
def uptoBulkEntries {H : Type} : List (Lit × DataW H) → Nat
  | [] => 0
  | x :: r => uptoBulkEntry x + uptoBulkEntries r
def uptoBulkEntry {H : Type} : Lit × DataW H → Nat
  | (.string bytes, d) => bytes.length + uptoBulk d + 1
  | (_, d) => uptoBulk d + 1
 end
def uptoSmall : (H : Type) → List (DataW H) → Bool := fun _ ds => decide (uptoBulkAll ds ≤ 1048576)
def OpenSpec.upto (s : _root_.Go.ChangeSpec) : _root_.Go.OpenSpec := { _root_.Go.OpenSpec.ofChange s with cond := some uptoSmall }

/-- 'laws.FnTextValid', WHERE WHAT IT READS IS OF BULK AT MOST 1048576: true; the input reads as it did. -/
def fnTextValidUptoRow : OpenClaim := { program := "ytiacpbahjfellaa", sum := "91b936a2511c15b70194c4448a4caaaa051b175740bbb6bdb79be97a3e91ef91", func := "loop.example/feedbridge/laws.FnTextValid", spec := "fnTextValid", apart := false, narrowed := true }
def FnTextValidUptoSaid : Prop := fnTextValidUptoRow.holds Try.pinned (OpenSpec.upto fnTextValidSpec)

/-- 'laws.FnEscapeText', WHERE WHAT IT READS IS OF BULK AT MOST 1048576: true; the input reads as it did. -/
def fnEscapeTextUptoRow : OpenClaim := { program := "ytiacpbahjfellaa", sum := "91b936a2511c15b70194c4448a4caaaa051b175740bbb6bdb79be97a3e91ef91", func := "loop.example/feedbridge/laws.FnEscapeText", spec := "fnEscapeText", apart := false, narrowed := true }
def FnEscapeTextUptoSaid : Prop := fnEscapeTextUptoRow.holds Try.pinned (OpenSpec.upto fnEscapeTextSpec)

/-- 'laws.FnUnescapeText', WHERE WHAT IT READS IS OF BULK AT MOST 1048576: true; the input reads as it did. -/
def fnUnescapeTextUptoRow : OpenClaim := { program := "ytiacpbahjfellaa", sum := "91b936a2511c15b70194c4448a4caaaa051b175740bbb6bdb79be97a3e91ef91", func := "loop.example/feedbridge/laws.FnUnescapeText", spec := "fnUnescapeText", apart := false, narrowed := true }
def FnUnescapeTextUptoSaid : Prop := fnUnescapeTextUptoRow.holds Try.pinned (OpenSpec.upto fnUnescapeTextSpec)

/-- 'laws.FnPlainOf', WHERE WHAT IT READS IS OF BULK AT MOST 1048576: true; the input reads as it did. -/
def fnPlainOfUptoRow : OpenClaim := { program := "ytiacpbahjfellaa", sum := "91b936a2511c15b70194c4448a4caaaa051b175740bbb6bdb79be97a3e91ef91", func := "loop.example/feedbridge/laws.FnPlainOf", spec := "fnPlainOf", apart := false, narrowed := true }
def FnPlainOfUptoSaid : Prop := fnPlainOfUptoRow.holds Try.pinned (OpenSpec.upto fnPlainOfSpec)

/-- 'laws.FnExactTextValid', WHERE WHAT IT READS IS OF BULK AT MOST 1048576: true; the input reads as it did. -/
def fnExactTextValidUptoRow : OpenClaim := { program := "ytiacpbahjfellaa", sum := "91b936a2511c15b70194c4448a4caaaa051b175740bbb6bdb79be97a3e91ef91", func := "loop.example/feedbridge/laws.FnExactTextValid", spec := "fnExactTextValid", apart := false, narrowed := true }
def FnExactTextValidUptoSaid : Prop := fnExactTextValidUptoRow.holds Try.pinned (OpenSpec.upto fnExactTextValidSpec)

/-- 'laws.FnExactEscapeText', WHERE WHAT IT READS IS OF BULK AT MOST 1048576: true; the input reads as it did. -/
def fnExactEscapeTextUptoRow : OpenClaim := { program := "ytiacpbahjfellaa", sum := "91b936a2511c15b70194c4448a4caaaa051b175740bbb6bdb79be97a3e91ef91", func := "loop.example/feedbridge/laws.FnExactEscapeText", spec := "fnExactEscapeText", apart := false, narrowed := true }
def FnExactEscapeTextUptoSaid : Prop := fnExactEscapeTextUptoRow.holds Try.pinned (OpenSpec.upto fnExactEscapeTextSpec)

/-- 'laws.FnExactUnescapeText', WHERE WHAT IT READS IS OF BULK AT MOST 1048576: true; the input reads as it did. -/
def fnExactUnescapeTextUptoRow : OpenClaim := { program := "ytiacpbahjfellaa", sum := "91b936a2511c15b70194c4448a4caaaa051b175740bbb6bdb79be97a3e91ef91", func := "loop.example/feedbridge/laws.FnExactUnescapeText", spec := "fnExactUnescapeText", apart := false, narrowed := true }
def FnExactUnescapeTextUptoSaid : Prop := fnExactUnescapeTextUptoRow.holds Try.pinned (OpenSpec.upto fnExactUnescapeTextSpec)

/-- 'laws.FnExactPlainOf', WHERE WHAT IT READS IS OF BULK AT MOST 1048576: true; the input reads as it did. -/
def fnExactPlainOfUptoRow : OpenClaim := { program := "ytiacpbahjfellaa", sum := "91b936a2511c15b70194c4448a4caaaa051b175740bbb6bdb79be97a3e91ef91", func := "loop.example/feedbridge/laws.FnExactPlainOf", spec := "fnExactPlainOf", apart := false, narrowed := true }
def FnExactPlainOfUptoSaid : Prop := fnExactPlainOfUptoRow.holds Try.pinned (OpenSpec.upto fnExactPlainOfSpec)

end Rows
end Go.Proofs.Ytiacpbahjfellaa
