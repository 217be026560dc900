/-
  The verifier's own text: LawS ArgF ArgS.
-/
import Derived.Test.YthniiknhbhoncaaRows
import Derived.Test.YthniiknhbhoncaaGt
import Derived.Test.YthniiknhbhoncaaGb
import Derived.Test.YthniiknhbhoncaaGr
import Derived.WalkKit
import Derived.ProofKit
import Derived.Below
import Derived.Lib.Hide
import Derived.Outline
import Derived.BigQuiet
import Derived.Deep.QuietTactic
import Derived.Deep.Draws
import Derived.Laws.OwnMore
import Derived.Laws.Rows
import Derived.WalkSpells
import Derived.Deep.RegionWith
namespace Go.Proofs.Ythniiknhbhoncaa
open Go.RowKit
set_option linter.unusedVariables false
def SzS (L : List ByteArray) : Prop := L.length ≤ 1048576 ∧ ∀ s ∈ L, s.size ≤ 1048576
def MaxS (L : List ByteArray) : Prop := ∀ s ∈ L, s.size ≤ maxLen
theorem fit_szS {L : List ByteArray} (h : SzS L) : FitS L := fun s m => by have := h.2 s m; omega
theorem rdS_at {w wr : World} {b o : Nat} {L : List ByteArray} (h : ∀ k (hk : k < L.length), w.cell? ⟨b, o + k, none⟩ = some (.string L[k])) (hb : b < w.heap.size) (hB : Below w.heap.size w wr) {k : Nat} (hk : k < L.length) : wr.cell? ⟨b, o + k, none⟩ = some (.string L[k]) := by
  rw [hB.cell (p := ⟨b, o + k, none⟩) hb]; exact h k hk
theorem made_one (a : Value) (n : Nat) : (madeCells #[a] (n * 1)).toList = (List.replicate n [a]).flatten := by
  induction n with
  | zero => simp [madeCells]
  | succ n ih =>
    rw [List.replicate_succ', List.flatten_append, ← ih]
    unfold madeCells
    rw [Nat.succ_mul, Array.range_succ]
    simp [Nat.mod_one]
def GotOwnS (L : List ByteArray) (w : World) (e : Ending) (w' : World) : Prop := ∃ v : Value, e = .returned v ∧ OwnS w' w.heap.size v L ∧ Below w.heap.size w w'
theorem full_strs {ops : Array Oper} {rest : List Oper} {o : Oper} {a : Act} {Q : Exit → Act → World → Prop} {w : World} (hg : o.guard = none) (l c : Operand) (hop : o.op = Op.makeSlice 66 l c)
    (n : Nat) (hl : a.eval l = .int .i64 n) (hc : a.eval c = .int .i64 n) (hn : n ≤ 1073741824)
    (hK : ∀ w', OwnS w' w.heap.size (.slice (some ⟨w.heap.size, 0, none⟩) n n) (List.replicate n ⟨#[]⟩) → Below w.heap.size w w' → wpList Try.prog ops Q rest (a.put o.dst (.slice (some ⟨w.heap.size, 0, none⟩) n n)) w') : wpList Try.prog ops Q (o :: rest) a w := by
  obtain ⟨i0, hi, hz0, hz1, hz2⟩ := info_parts infoS
  refine wpList_make_full w hg l c 66 hop w.heap.size 9 i0 _ 1 Try.underlying66 hi hz0 hz1 .i64 .i64 n n n hl hc rfl rfl ?_ ?_ (Nat.le_refl _) ?_
  · rw [hz2]; omega
  · unfold maxLen; omega
  · intro w' h1 h2
    refine hK w' ?_ ((Below.refl _ _).grown h2 (Nat.le_refl _) (fun k hk => by cases hk))
    unfold OwnS OwnG
    rw [List.length_replicate, flat_rep]
    have e : (madeCells (Value.string ⟨#[]⟩).cells (n * 1)).toList = (List.replicate n (encS ⟨#[]⟩)).flatten := made_one _ n
    rw [← e]; exact h1
/-- an argument of items -/
def ArgFL (w : World) (A : Option Addr) (n c : Nat) (L : List It) : Prop := L.length = n ∧ RdG encI w (.slice A n c) L ∧ MaxF L
theorem elLS {H : Type} {en : TypeId × Value → H} {w : World} {spare : Nat → Bool} {held : Bool} : ∀ m cs' x', DataW.trod en Try.prog w 0 spare held m 9 cs' = some x' → ∃ y : ByteArray, cs' = encS y ∧ y.size ≤ maxLen := by
  intro m cs x h
  obtain ⟨s0, e0, _, m0⟩ := DataW.trod_string Try.underlying9 h
  exact ⟨s0, by rw [e0]; rfl, m0⟩
/-- an argument of texts -/
def ArgSL (w : World) (A : Option Addr) (n c : Nat) (L : List ByteArray) : Prop := L.length = n ∧ RdG encS w (.slice A n c) L ∧ MaxS L
theorem argS {H : Type} {en : TypeId × Value → H} {w : World} {spare : Nat → Bool} {held : Bool} {fuel : Nat} {A : Option Addr} {n c : Nat} {cs : List Value} {x : DataW H × List MemPlace} (hcs : cs = [.slice A n c]) (h : DataW.trod en Try.prog w 0 spare held fuel 66 cs = some x) :
    ∃ L : List ByteArray, ArgSL w A n c L :=
  rd_arg 1 (by decide) Try.underlying66 (by kernel_rfl) encS_len _ elLS hcs h
end Go.Proofs.Ythniiknhbhoncaa
