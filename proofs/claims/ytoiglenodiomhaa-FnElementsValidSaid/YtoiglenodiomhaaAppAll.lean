/-
  The verifier's own text: AppAll.
-/
import Derived.Test.YtoiglenodiomhaaRows
import Derived.Test.YtoiglenodiomhaaRdG
import Derived.WalkKit
import Derived.ProofKit
import Derived.Below
import Derived.Lib.Hide
import Derived.Outline
import Derived.BigQuiet
import Derived.Deep.QuietTactic
import Derived.Deep.Draws
import Derived.Laws.OwnMore
import Derived.Laws.Rows
import Derived.WalkSpells
import Derived.Deep.RegionWith
namespace Go.Proofs.Ytoiglenodiomhaa
open Go.RowKit
set_option linter.unusedVariables false
/-- append with nothing behind -/
theorem run_app_none {P : Program} (w : World) (t ty e : TypeId) (i : TypeInfo) (ht : P.underlying t = some (.slice e)) (hi : P.info? e = some i) (A : Option Addr) (n cap c : Nat) (h : n ≤ cap) :
    (Builtin.append_ #[t, t] ty #[.slice A n cap, .slice none 0 c]).run P w = .ok (.slice A n cap) w := by
  cases A with
  | none => simp [Builtin.append_, run_underlying ht, sizeOf, typeInfo, hi, Builtin.lenOf, h, Builtin.firstCells]
  | some a => simp [Builtin.append_, run_underlying ht, sizeOf, typeInfo, hi, Builtin.lenOf, h, Builtin.firstCells, storeCells]
theorem OwnG.room {α : Type} {ty : TypeId} {size : Nat} {enc : α → List Value} {w : World} {B : Nat} {v : Value} {L : List α} (h : OwnG ty size enc w B v L) : ∃ A cap, v = .slice A L.length cap ∧ L.length ≤ cap := by
  obtain ⟨A, c, hv, hc, _⟩ := OwnG.rd h; exact ⟨A, c, hv, hc⟩
/-- an append of a whole list -/
theorem wp_app_all {α : Type} {enc : α → List Value} {P : Program} {o : Oper} {a : Act} {K : Act → World → Prop} {Q : Exit → Act → World → Prop} {w : World} (s x : Operand) (t : TypeId)
    (ho : o.op = .call { callee := .builtin .append, args := #[s, x], argTypes := #[t, t] }) (ty : TypeId) (size bytes : Nat) (z : Value) (ht : P.underlying t = some (.slice ty)) (hi0 : (P.info? ty).map (fun i => (i.zero, i.size, i.bytes)) = some (some z, size, bytes))
    (hz : z.cells.size = size) (hsz0 : 0 < size) (hby : bytes ≤ 4096) (he : ∀ x, (enc x).length = size) (h1 : ∀ x u, u ∈ enc x → u.oneCell' = true)
    (B : Nat) (v u : Value) (L M : List α) (hs : a.eval s = v) (hown : OwnG ty size enc w B v L) (hB : B ≤ w.heap.size) (hx : a.eval x = u) (hrd : RdG enc w u M) (hl : L.length + M.length ≤ 1073741824)
    (h : ∀ v' w', OwnG ty size enc w' B v' (L ++ M) → w.grownBy w' v.ownBlock → K (a.put o.dst v') w') : o.wp P a w K Q := by
  obtain ⟨i0, hi, hz0, hz1, hz2⟩ := info_parts hi0
  have hb : (L.length + M.length) * bytes ≤ 140737488355328 := by have := Nat.mul_le_mul_left (L.length + M.length) hby; omega
  have fin : ∀ v' w', w'.ownsRow B ty size v' (L.length + M.length) (L.flatMap enc ++ M.flatMap enc) → w.grownBy w' v.ownBlock → (v' = .slice none 0 0 ↔ v = .slice none 0 0 ∧ M.length = 0) → K (a.put o.dst v') w' := fun v' w' h2 h3 _ => by
    refine h v' w' ?_ h3
    unfold OwnG
    rw [List.length_append, List.flatMap_append]; exact h2
  by_cases hM : M = []
  · subst hM
    obtain ⟨A, c, rfl, hc⟩ := hrd.nil
    cases A with
    | none =>
      obtain ⟨A', cap, hv, hcap⟩ := OwnG.room hown
      have hr := run_app_none (P := P) w t o.type ty i0 ht hi A' L.length cap c hcap
      rw [← hv] at hr
      unfold Oper.wp execOp
      simp only [ho, resolve, invoke, builtin, Sem.run_bind, Sem.run_pure, Result.andThen_ok, List.map_toArray, List.map_cons, List.map_nil, hs, hx, hr]
      exact h v w (by simpa using hown) (grown_refl _ _)
    | some ad =>
      exact wp_append_own w s x t ho B ty i0 z size bytes ht hi hz0 hz1 hz2 hz hsz0 v L.length _ hs hown ad 0 c [] hx (by simp) (by simp) (by simp) (by unfold maxLen; simp at hl; omega) (by simpa using hb) hB (by simpa using fin)
  · obtain ⟨b, o', c, rfl, hc, hm, hbl, hcells⟩ := hrd.some hM
    exact wp_append_own w s x t ho B ty i0 z size bytes ht hi hz0 hz1 hz2 hz hsz0 v L.length _ hs hown ⟨b, o', none⟩ M.length c (M.flatMap enc) hx (flat_len he M) (fun j q hj => by
      have : (⟨b, o', none⟩ : Addr).add j = ⟨b, o' + j, none⟩ := by unfold Addr.add; split <;> simp_all
      rw [this]; exact hcells j q hj) (fun q hq => by
      obtain ⟨y, _, hy⟩ := List.mem_flatMap.1 hq
      exact h1 y q hy) (by unfold maxLen; omega) hb hB fin
theorem app_all {α : Type} {enc : α → List Value} {P : Program} {ops : Array Oper} {rest : List Oper} {o : Oper} {a : Act} {Q : Exit → Act → World → Prop} {w : World} (hgd : o.guard = none) (s x : Operand) (t : TypeId)
    (ho : o.op = .call { callee := .builtin .append, args := #[s, x], argTypes := #[t, t] }) (ty : TypeId) (size bytes : Nat) (z : Value) (ht : P.underlying t = some (.slice ty)) (hi0 : (P.info? ty).map (fun i => (i.zero, i.size, i.bytes)) = some (some z, size, bytes))
    (hz : z.cells.size = size) (hsz0 : 0 < size) (hby : bytes ≤ 4096) (he : ∀ x, (enc x).length = size) (h1 : ∀ x u, u ∈ enc x → u.oneCell' = true)
    (B : Nat) (v u : Value) (L M : List α) (hs : a.eval s = v) (hown : OwnG ty size enc w B v L) (hB : B ≤ w.heap.size) (hx : a.eval x = u) (hrd : RdG enc w u M) (hl : L.length + M.length ≤ 1073741824)
    (h : ∀ v' w', OwnG ty size enc w' B v' (L ++ M) → w.grownBy w' v.ownBlock → wpList P ops Q rest (a.put o.dst v') w') : wpList P ops Q (o :: rest) a w :=
  wpList_plain hgd fun _ hK => wp_app_all s x t ho ty size bytes z ht hi0 hz hsz0 hby he h1 B v u L M hs hown hB hx hrd hl fun v' w' h2 h3 => hK _ _ (h v' w' h2 h3)
/-- the same, as one step of a region that draws (go_region_law) -/
theorem step_all {α : Type} {enc : α → List Value} {P : Program} {ops : Array Oper} {o : Oper} {a : Act} {K : Act → World → Prop} {Q : Exit → Act → World → Prop} {E : Prop} {w : World} (hgd : o.guard = none) (s x : Operand) (t : TypeId)
    (ho : o.op = .call { callee := .builtin .append, args := #[s, x], argTypes := #[t, t] }) (ty : TypeId) (size bytes : Nat) (z : Value) (ht : P.underlying t = some (.slice ty)) (hi0 : (P.info? ty).map (fun i => (i.zero, i.size, i.bytes)) = some (some z, size, bytes))
    (hz : z.cells.size = size) (hsz0 : 0 < size) (hby : bytes ≤ 4096) (he : ∀ x, (enc x).length = size) (h1 : ∀ x u, u ∈ enc x → u.oneCell' = true)
    (B : Nat) (v u : Value) (L M : List α) (hs : a.eval s = v) (hown : OwnG ty size enc w B v L) (hB : B ≤ w.heap.size) (hx : a.eval x = u) (hrd : RdG enc w u M) (hl : L.length + M.length ≤ 1073741824)
    (h : ∀ v' w', OwnG ty size enc w' B v' (L ++ M) → w.grownBy w' v.ownBlock → K (a.put o.dst v') w') : if Region.wanted o (yielded ops a.tmps) = true then Oper.wp P o a w K Q else E := by
  have hw : Region.wanted o (yielded ops a.tmps) = true := by simp [Region.wanted, hgd]
  rw [if_pos hw]
  exact wp_app_all s x t ho ty size bytes z ht hi0 hz hsz0 hby he h1 B v u L M hs hown hB hx hrd hl h
end Go.Proofs.Ytoiglenodiomhaa
