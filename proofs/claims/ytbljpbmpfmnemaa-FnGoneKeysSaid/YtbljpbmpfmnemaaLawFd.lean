/-
  The verifier's own text: LawFd.
-/
import Derived.Test.YtbljpbmpfmnemaaRows
import Derived.Test.YtbljpbmpfmnemaaGt
import Derived.Test.YtbljpbmpfmnemaaGq
import Derived.Test.YtbljpbmpfmnemaaGu
import Derived.Test.YtbljpbmpfmnemaaGv
import Derived.BigFrame
import Derived.WalkKit
import Derived.ProofKit
import Derived.Below
import Derived.Lib.Hide
import Derived.Outline
import Derived.BigQuiet
import Derived.Deep.QuietTactic
import Derived.Deep.Draws
import Derived.Laws.OwnMore
import Derived.Laws.Rows
import Derived.WalkSpells
import Derived.Deep.RegionWith
namespace Go.Proofs.Ytbljpbmpfmnemaa
open Go.RowKit
set_option linter.unusedVariables false
theorem own_lit1I (w : World) (B : Nat) (h : B ≤ w.heap.size) (ky ti bo : ByteArray) (da : Int) : OwnF (w.alloc (.cells #[.string ky, .string ti, .string bo, .int .i64 da] 30)) B (.slice (some ⟨w.heap.size, 0, none⟩) 1 1) [⟨ky, ti, bo, da⟩] := by
  have := World.ownsRow_lit (e := 30) (size := 4) (base := B) w #[.string ky, .string ti, .string bo, .int .i64 da] 1 h (by simp [maxLen]) rfl
  exact this
theorem fdB_tail {L : List It} (h : fdB L = true) : fdB (L.drop 1) = true := by
  obtain ⟨a, b, c⟩ := fdB_of h
  refine fdB_mk (by rw [List.length_drop]; omega) (fun i m => b i (List.mem_of_mem_drop m)) ?_
  rw [List.map_drop]
  exact c.sublist (List.drop_sublist 1 _)
theorem fdB_again {L : List It} (h : 0 < L.length) : fdB ([L[0]] ++ L) = false :=
  fdB_twice (L := [L[0]] ++ L) (j := 0) (k := 1) (by omega) (by simp; omega) rfl
theorem fit_again {L : List It} (h : FitF L) (h0 : 0 < L.length) : FitF ([L[0]] ++ L) := fun i m => by
  rcases List.mem_append.1 m with m | m
  · have : i = L[0] := by simpa using m
    rw [this]; exact h _ (List.getElem_mem h0)
  · exact h i m
theorem app_strs {ops : Array Oper} {rest : List Oper} {o : Oper} {a : Act} {Q : Exit → Act → World → Prop} {w : World} (hgd : o.guard = none) (s x : Operand)
    (ho : o.op = .call { callee := .builtin .append, args := #[s, x], argTypes := #[37, 37] }) (B : Nat) (v u : Value) (L M : List ByteArray) (hs : a.eval s = v)
    (hown : OwnS w B v L) (hB : B ≤ w.heap.size) (hx : a.eval x = u) (hrd : RdG encS w u M) (hl : L.length + M.length ≤ 1073741824)
    (h : ∀ v' w', OwnS w' B v' (L ++ M) → w.grownBy w' v.ownBlock → wpList Try.prog ops Q rest (a.put o.dst v') w') : wpList Try.prog ops Q (o :: rest) a w :=
  app_all (enc := encS) hgd s x 37 ho 9 1 16 _ Try.underlying37 infoS rfl (by decide) (by decide) encS_len encS_one B v u L M hs hown hB hx hrd hl h
theorem rfF_bad {out : List It} {bad : Nat} {ls : List ByteArray} {x : List It} {b : Nat} (hx : rfF out bad ls = (x, (b : Int))) : b ≤ bad + ls.length := by
  induction ls generalizing out bad with
  | nil =>
    rw [rfF_nil] at hx
    have : (bad : Int) = b := by injection hx
    simp; omega
  | cons s ls ih =>
    rw [List.length_cons]
    rcases e : itL s.data.toList with ⟨i, ok⟩
    cases ok with
    | false => rw [rfF_none e] at hx; have := ih hx; omega
    | true =>
      by_cases hm : i.key ∈ out.map It.key
      · rw [rfF_twice e hm] at hx; have := ih hx; omega
      · by_cases h8 : 8 ≤ out.length
        · rw [rfF_full e hm h8] at hx
          have : (-1 : Int) = (b : Int) := by injection hx
          omega
        · rw [rfF_more e hm (by omega)] at hx; have := ih hx; omega
/-- the same append behind a guard that says yes -/
theorem app_itemsG {ops : Array Oper} {rest : List Oper} {o : Oper} {a : Act} {Q : Exit → Act → World → Prop} {w : World} (hw : Region.wanted o (yielded ops a.tmps) = true) (s x : Operand)
    (ho : o.op = .call { callee := .builtin .append, args := #[s, x], argTypes := #[23, 23] }) (B : Nat) (v u : Value) (L M : List It) (hs : a.eval s = v)
    (hown : OwnF w B v L) (hB : B ≤ w.heap.size) (hx : a.eval x = u) (hrd : RdG encI w u M) (hl : L.length + M.length ≤ 1073741824)
    (h : ∀ v' w', OwnF w' B v' (L ++ M) → w.grownBy w' v.ownBlock → wpList Try.prog ops Q rest (a.put o.dst v') w') : wpList Try.prog ops Q (o :: rest) a w :=
  Go.BigFrame.wpList_want hw fun _ hK => wp_app_all (enc := encI) s x 23 ho 30 4 56 _ Try.underlying23 infoI rfl (by decide) (by decide) encI_len encI_one B v u L M hs hown hB hx hrd hl fun v' w' h2 h3 => hK _ _ (h v' w' h2 h3)
end Go.Proofs.Ytbljpbmpfmnemaa
