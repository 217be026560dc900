/-
  The verifier's own text: LawX.
-/
import Derived.Test.YtoiglenodiomhaaRows
import Derived.Test.YtoiglenodiomhaaAppAll
import Derived.Test.YtoiglenodiomhaaDElem2
import Derived.Test.YtoiglenodiomhaaElemVI
import Derived.Test.YtoiglenodiomhaaAlive
import Derived.WalkKit
import Derived.ProofKit
import Derived.Below
import Derived.Lib.Hide
import Derived.Outline
import Derived.BigQuiet
import Derived.Deep.QuietTactic
import Derived.Deep.Draws
import Derived.Laws.OwnMore
import Derived.Laws.Rows
import Derived.WalkSpells
import Derived.Deep.RegionWith
namespace Go.Proofs.Ytoiglenodiomhaa
open Go.RowKit
set_option linter.unusedVariables false
theorem own_lit1 (w : World) (B : Nat) (n t : ByteArray) (h : B ≤ w.heap.size) : OwnE (w.alloc (.cells #[.string n, .string t] 27)) B (.slice (some ⟨w.heap.size, 0, none⟩) 1 1) [(n, t)] := by
  have := World.ownsRow_lit (e := 27) (size := 2) (base := B) w #[.string n, .string t] 1 h (by simp [maxLen]) rfl
  exact this
theorem rdG_drop {α : Type} {enc : α → List Value} {size : Nat} (he : ∀ x, (enc x).length = size) {w : World} {b o c : Nat} {L : List α} (h : RdG enc w (.slice (some ⟨b, o, none⟩) L.length c) L) (hn : L ≠ []) (k : Nat) (hk : k < L.length) (q n' c' : Nat) (hq : q = o + k * size) (hn' : n' = L.length - k) (hc : n' ≤ c') (hc' : c' ≤ c) :
    RdG enc w (.slice (some ⟨b, q, none⟩) n' c') (L.drop k) := by
  subst hq
  obtain ⟨b', o', c2, hv, h1, h2, hb, h4⟩ := h.some hn
  obtain ⟨⟨rfl, rfl⟩, rfl⟩ : (b = b' ∧ o = o') ∧ c = c2 := by simpa using hv
  refine ⟨some ⟨b, o + k * size, none⟩, c', by rw [List.length_drop, hn'], by rw [List.length_drop]; omega, by omega, .inr ⟨b, o + k * size, rfl, hb, fun j u hj => ?_⟩⟩
  have e : (L.drop k).flatMap enc = (L.flatMap enc).drop (k * size) := by
    have h3 : L.flatMap enc = (L.take k).flatMap enc ++ (L.drop k).flatMap enc := by rw [← List.flatMap_append, List.take_append_drop]
    have h5 : ((L.take k).flatMap enc).length = k * size := by rw [flat_len he, List.length_take, Nat.min_eq_left (by omega)]
    rw [h3, ← h5, List.drop_left]
  rw [e, List.getElem?_drop] at hj
  have := h4 (k * size + j) u hj
  rw [← Nat.add_assoc] at this; exact this
theorem app_els {ops : Array Oper} {rest : List Oper} {o : Oper} {a : Act} {Q : Exit → Act → World → Prop} {w : World} (hgd : o.guard = none) (s x : Operand)
    (ho : o.op = .call { callee := .builtin .append, args := #[s, x], argTypes := #[23, 23] }) (B : Nat) (v u : Value) (L M : EL) (hs : a.eval s = v) (hown : OwnE w B v L) (hB : B ≤ w.heap.size) (hx : a.eval x = u) (hrd : RdG encE w u M) (hl : L.length + M.length ≤ 1073741824)
    (h : ∀ v' w', OwnE w' B v' (L ++ M) → w.grownBy w' v.ownBlock → wpList Try.prog ops Q rest (a.put o.dst v') w') : wpList Try.prog ops Q (o :: rest) a w :=
  app_all (enc := encE) hgd s x 23 ho 27 2 32 _ Try.underlying23 infoE rfl (by decide) (by decide) encE_len encE_one B v u L M hs hown hB hx hrd hl h
end Go.Proofs.Ytoiglenodiomhaa
