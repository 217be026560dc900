/-
  The verifier's own text: RdG.
-/
import Derived.Test.YtoiglenodiomhaaRows
import Derived.Test.YtoiglenodiomhaaOwn
import Derived.Laws.NewBlocks
import Derived.Deep.RegionLaw
import Derived.WalkKit
import Derived.ProofKit
import Derived.Below
import Derived.Lib.Hide
import Derived.Outline
import Derived.BigQuiet
import Derived.Deep.QuietTactic
import Derived.Deep.Draws
import Derived.Laws.OwnMore
import Derived.Laws.Rows
import Derived.WalkSpells
import Derived.Deep.RegionWith
namespace Go.Proofs.Ytoiglenodiomhaa
open Go.RowKit
set_option linter.unusedVariables false
/-- a slice value that reads as a list, each element as its cells -/
def RdG {α : Type} (enc : α → List Value) (w : World) (v : Value) (L : List α) : Prop :=
  ∃ (A : Option Addr) (c : Nat), v = .slice A L.length c ∧ L.length ≤ c ∧ c ≤ maxLen ∧
    (L = [] ∨ ∃ b o, A = some ⟨b, o, none⟩ ∧ b < w.heap.size ∧ ∀ j u, (L.flatMap enc)[j]? = some u → w.cell? ⟨b, o + j, none⟩ = some u)
/-- the place where it begins; any where nothing is there -/
theorem RdG.nil {α : Type} {enc : α → List Value} {w : World} {v : Value} (h : RdG enc w v []) : ∃ A c, v = .slice A 0 c ∧ c ≤ maxLen := by
  obtain ⟨A, c, rfl, _, h2, _⟩ := h; exact ⟨A, c, rfl, h2⟩
theorem RdG.some {α : Type} {enc : α → List Value} {w : World} {v : Value} {L : List α} (h : RdG enc w v L) (hn : L ≠ []) :
    ∃ b o c, v = .slice (some ⟨b, o, none⟩) L.length c ∧ L.length ≤ c ∧ c ≤ maxLen ∧ b < w.heap.size ∧ ∀ j u, (L.flatMap enc)[j]? = some u → w.cell? ⟨b, o + j, none⟩ = some u := by
  obtain ⟨A, c, rfl, h1, h2, h3⟩ := h
  rcases h3 with h3 | ⟨b, o, rfl, hb, h4⟩
  · exact absurd h3 hn
  · exact ⟨b, o, c, rfl, h1, h2, hb, h4⟩
theorem flat_get {α : Type} {enc : α → List Value} {n : Nat} (he : ∀ x, (enc x).length = n) : ∀ (L : List α) (k : Nat) (hk : k < L.length) (j : Nat), j < n → (L.flatMap enc)[k * n + j]? = (enc L[k])[j]? := by
  intro L
  induction L with
  | nil => intro k hk; simp at hk
  | cons a L ih =>
    intro k hk j hj
    rw [List.flatMap_cons]
    cases k with
    | zero => rw [List.getElem?_append_left (by rw [he]; omega)]; simp
    | succ k =>
      rw [List.getElem?_append_right (by rw [he, Nat.add_mul]; omega), he]
      have : (k + 1) * n + j - n = k * n + j := by rw [Nat.add_mul]; omega
      rw [this, ih k (by simpa using hk) j hj]; simp
theorem flat_len {α : Type} {enc : α → List Value} {n : Nat} (he : ∀ x, (enc x).length = n) (L : List α) : (L.flatMap enc).length = L.length * n := by
  induction L with
  | nil => simp
  | cons a L ih => rw [List.flatMap_cons, List.length_append, ih, he, List.length_cons, Nat.add_mul]; omega
theorem RdG.below {α : Type} {enc : α → List Value} {w w' : World} {v : Value} {L : List α} (h : RdG enc w v L) (hb : Below w.heap.size w w') : RdG enc w' v L := by
  obtain ⟨A, c, rfl, h1, h2, h3⟩ := h
  refine ⟨A, c, rfl, h1, h2, ?_⟩
  rcases h3 with h3 | ⟨b, o, rfl, hlt, h4⟩
  · exact .inl h3
  · refine .inr ⟨b, o, rfl, Nat.lt_of_lt_of_le hlt hb.size, fun j u hj => ?_⟩
    rw [hb.cell (p := ⟨b, o + j, none⟩) hlt]; exact h4 j u hj
/-- an owned list -/
def OwnG {α : Type} (ty : TypeId) (size : Nat) (enc : α → List Value) (w : World) (B : Nat) (v : Value) (L : List α) : Prop := w.ownsRow B ty size v L.length (L.flatMap enc)
theorem OwnG.grown {α : Type} {ty : TypeId} {size : Nat} {enc : α → List Value} {w w' : World} {B : Nat} {v : Value} {L : List α} (h : OwnG ty size enc w B v L) (hb : Below w.heap.size w w') : OwnG ty size enc w' B v L := by
  refine ⟨h.1, ?_⟩
  rcases h.2 with hn | ⟨g, cap, cur, rfl, hbg, hgg, rest⟩
  · exact .inl hn
  · refine .inr ⟨g, cap, cur, rfl, hbg, ?_, rest⟩
    rw [hb.block g (Array.getElem?_eq_some_iff.1 hgg).1]; exact hgg
theorem OwnG.ge {α : Type} {ty : TypeId} {size : Nat} {enc : α → List Value} {w : World} {B : Nat} {v : Value} {L : List α} (h : OwnG ty size enc w B v L) : ∀ k, v.ownBlock = some k → B ≤ k := fun k hk => (World.ownsRow.lt h k hk).1
theorem OwnG.base {α : Type} {ty : TypeId} {size : Nat} {enc : α → List Value} {w : World} {B B' : Nat} {v : Value} {L : List α} (h : OwnG ty size enc w B v L) (hb : B' ≤ B) : OwnG ty size enc w B' v L := by
  refine ⟨h.1, ?_⟩
  rcases h.2 with hn | ⟨g, cap, cur, rfl, hbg, rest⟩
  · exact .inl hn
  · exact .inr ⟨g, cap, cur, rfl, Nat.le_trans hb hbg, rest⟩
theorem OwnG.rd {α : Type} {ty : TypeId} {size : Nat} {enc : α → List Value} {w : World} {B : Nat} {v : Value} {L : List α} (h : OwnG ty size enc w B v L) : RdG enc w v L := by
  have hl := h.1
  rcases h.2 with ⟨rfl, hn⟩ | ⟨g, cap, cur, rfl, hbg, hgg, h1, h2, h3, h4⟩
  · have : L = [] := List.length_eq_zero_iff.1 hn
    subst this
    exact ⟨none, 0, rfl, by simp, by simp, .inl rfl⟩
  · refine ⟨some ⟨g, 0, none⟩, cap, rfl, h1, h2, .inr ⟨g, 0, rfl, (Array.getElem?_eq_some_iff.1 hgg).1, fun j u hj => ?_⟩⟩
    rw [Nat.zero_add]
    have hj' : j < L.length * size := by rw [← hl]; exact (List.getElem?_eq_some_iff.1 hj).1
    have := World.ownsRow.cellAt (g := g) (cap := cap) (h : w.ownsRow B ty size (.slice (some ⟨g, 0, none⟩) L.length cap) L.length (L.flatMap enc)) j hj'
    rw [this]; exact hj
theorem ownG_nil {α : Type} (ty : TypeId) (size : Nat) (enc : α → List Value) (w : World) (B : Nat) : OwnG ty size enc w B (.slice none 0 0) [] := World.ownsRow_nil w B ty size
/-- an append of one -/
theorem app_one {α : Type} {enc : α → List Value} {P : Program} {ops : Array Oper} {rest : List Oper} {o : Oper} {a : Act} {Q : Exit → Act → World → Prop} {w : World} (hgd : o.guard = none) (s x : Operand) (t : TypeId)
    (ho : o.op = .call { callee := .builtin .append, args := #[s, x], argTypes := #[t, t] }) (ty : TypeId) (size bytes : Nat) (z : Value) (ht : P.underlying t = some (.slice ty)) (hi0 : (P.info? ty).map (fun i => (i.zero, i.size, i.bytes)) = some (some z, size, bytes))
    (hz : z.cells.size = size) (hsz0 : 0 < size) (hby : bytes ≤ 4096) (he : ∀ x, (enc x).length = size) (h1 : ∀ x u, u ∈ enc x → u.oneCell' = true)
    (W : World) (v : Value) (L : List α) (c : α) (hs : a.eval s = v) (hown : OwnG ty size enc w W.heap.size v L) (hb : Below W.heap.size W w) (g : Nat) (hgz : w.heap.size = g) (hx : a.eval x = .slice (some ⟨g, 0, none⟩) 1 1) (hl : L.length ≤ 1073741824)
    (h : ∀ v' w', OwnG ty size enc w' W.heap.size v' (L ++ [c]) → Below W.heap.size W w' → wpList P ops Q rest (a.put o.dst v') w') : wpList P ops Q (o :: rest) a (w.alloc (.cells (enc c).toArray ty)) := by
  subst hgz
  obtain ⟨i0, hi, hz0, hz1, hz2⟩ := info_parts hi0
  have hsz := hb.size
  refine wpList_append_own (w := w.alloc (.cells (enc c).toArray ty)) hgd s x t ho W.heap.size ty i0 z size bytes ht hi hz0 hz1 hz2 hz hsz0 v L.length _ hs (World.ownsRow.alloc hown _) ⟨w.heap.size, 0, none⟩ 1 1 (enc c) hx (by rw [he]; omega) ?_ (h1 c) ?_ ?_ ?_ ?_
  · intro j u hj
    have : (⟨w.heap.size, 0, none⟩ : Addr).add j = ⟨w.heap.size, j, none⟩ := by unfold Addr.add; split <;> simp_all
    rw [this, World.cell?_alloc_new]; simpa using hj
  · unfold maxLen; omega
  · have := Nat.mul_le_mul_left (L.length + 1) hby; omega
  · simp; omega
  · intro v' w' h1 h2 _
    refine h v' w' ?_ ((hb.alloc hsz _).grown h2 (by simp; omega) (fun k hk => hown.ge k hk))
    unfold OwnG
    rw [List.length_append, List.flatMap_append]
    simpa using h1
theorem OwnG.row {α : Type} {ty : TypeId} {size : Nat} {enc : α → List Value} {w w' : World} {B : Nat} {v : Value} {L : List α} {row : Option Nat} (h : OwnG ty size enc w B v L) (hg : w.grownBy w' row) (hne : ∀ k, row = some k → k < B) : OwnG ty size enc w' B v L := by
  refine ⟨h.1, ?_⟩
  rcases h.2 with hn | ⟨g, cap, cur, rfl, hbg, hgg, rest⟩
  · exact .inl hn
  · refine .inr ⟨g, cap, cur, rfl, hbg, ?_, rest⟩
    rw [hg.block g (Array.getElem?_eq_some_iff.1 hgg).1 (fun e => by have := hne g e.symm; omega)]; exact hgg
/-- an append of one, over any base; only the list's own block turns -/
theorem app_gen {α : Type} {enc : α → List Value} {P : Program} {ops : Array Oper} {rest : List Oper} {o : Oper} {a : Act} {Q : Exit → Act → World → Prop} {w : World} (hgd : o.guard = none) (s x : Operand) (t : TypeId)
    (ho : o.op = .call { callee := .builtin .append, args := #[s, x], argTypes := #[t, t] }) (ty : TypeId) (size bytes : Nat) (z : Value) (ht : P.underlying t = some (.slice ty)) (hi0 : (P.info? ty).map (fun i => (i.zero, i.size, i.bytes)) = some (some z, size, bytes))
    (hz : z.cells.size = size) (hsz0 : 0 < size) (hby : bytes ≤ 4096) (he : ∀ x, (enc x).length = size) (h1 : ∀ x u, u ∈ enc x → u.oneCell' = true)
    (B : Nat) (v : Value) (L : List α) (c : α) (hs : a.eval s = v) (hown : OwnG ty size enc w B v L) (hB : B ≤ w.heap.size) (g : Nat) (hgz : w.heap.size = g) (hx : a.eval x = .slice (some ⟨g, 0, none⟩) 1 1) (hl : L.length ≤ 1073741824)
    (h : ∀ v' w', OwnG ty size enc w' B v' (L ++ [c]) → w.grownBy w' v.ownBlock → wpList P ops Q rest (a.put o.dst v') w') : wpList P ops Q (o :: rest) a (w.alloc (.cells (enc c).toArray ty)) := by
  subst hgz
  obtain ⟨i0, hi, hz0, hz1, hz2⟩ := info_parts hi0
  refine wpList_append_own (w := w.alloc (.cells (enc c).toArray ty)) hgd s x t ho B ty i0 z size bytes ht hi hz0 hz1 hz2 hz hsz0 v L.length _ hs (World.ownsRow.alloc hown _) ⟨w.heap.size, 0, none⟩ 1 1 (enc c) hx (by rw [he]; omega) ?_ (h1 c) ?_ ?_ ?_ ?_
  · intro j u hj
    have : (⟨w.heap.size, 0, none⟩ : Addr).add j = ⟨w.heap.size, j, none⟩ := by unfold Addr.add; split <;> simp_all
    rw [this, World.cell?_alloc_new]; simpa using hj
  · unfold maxLen; omega
  · have := Nat.mul_le_mul_left (L.length + 1) hby; omega
  · simp; omega
  · intro v' w' h1 h2 _
    refine h v' w' ?_ (grown_trans (grown_alloc w _ _) h2)
    unfold OwnG
    rw [List.length_append, List.flatMap_append]
    simpa using h1
/-- the same, as one step of a region that draws (go_region_law) -/
theorem step_gen {α : Type} {enc : α → List Value} {P : Program} {ops : Array Oper} {o : Oper} {a : Act} {K : Act → World → Prop} {Q : Exit → Act → World → Prop} {E : Prop} {w : World} (hgd : o.guard = none) (s x : Operand) (t : TypeId)
    (ho : o.op = .call { callee := .builtin .append, args := #[s, x], argTypes := #[t, t] }) (ty : TypeId) (size bytes : Nat) (z : Value) (ht : P.underlying t = some (.slice ty)) (hi0 : (P.info? ty).map (fun i => (i.zero, i.size, i.bytes)) = some (some z, size, bytes))
    (hz : z.cells.size = size) (hsz0 : 0 < size) (hby : bytes ≤ 4096) (he : ∀ x, (enc x).length = size) (h1 : ∀ x u, u ∈ enc x → u.oneCell' = true)
    (B : Nat) (v : Value) (L : List α) (c : α) (hs : a.eval s = v) (hown : OwnG ty size enc w B v L) (hB : B ≤ w.heap.size) (g : Nat) (hgz : w.heap.size = g) (hx : a.eval x = .slice (some ⟨g, 0, none⟩) 1 1) (hl : L.length ≤ 1073741824)
    (h : ∀ v' w', OwnG ty size enc w' B v' (L ++ [c]) → w.grownBy w' v.ownBlock → K (a.put o.dst v') w') : if Region.wanted o (yielded ops a.tmps) = true then Oper.wp P o a (w.alloc (.cells (enc c).toArray ty)) K Q else E := by
  have hw : Region.wanted o (yielded ops a.tmps) = true := by simp [Region.wanted, hgd]
  rw [if_pos hw]
  subst hgz
  obtain ⟨i0, hi, hz0, hz1, hz2⟩ := info_parts hi0
  refine wp_append_own (w := w.alloc (.cells (enc c).toArray ty)) s x t ho B ty i0 z size bytes ht hi hz0 hz1 hz2 hz hsz0 v L.length _ hs (World.ownsRow.alloc hown _) ⟨w.heap.size, 0, none⟩ 1 1 (enc c) hx (by rw [he]; omega) ?_ (h1 c) ?_ ?_ ?_ ?_
  · intro j u hj
    have : (⟨w.heap.size, 0, none⟩ : Addr).add j = ⟨w.heap.size, j, none⟩ := by unfold Addr.add; split <;> simp_all
    rw [this, World.cell?_alloc_new]; simpa using hj
  · unfold maxLen; omega
  · have := Nat.mul_le_mul_left (L.length + 1) hby; omega
  · simp; omega
  · intro v' w' h1 h2 _
    refine h v' w' ?_ (grown_trans (grown_alloc w _ _) h2)
    unfold OwnG
    rw [List.length_append, List.flatMap_append]
    simpa using h1
theorem flat_set {α : Type} {enc : α → List Value} {n : Nat} (he : ∀ x, (enc x).length = n) : ∀ (L : List α) (k : Nat) (hk : k < L.length) (j : Nat) (_ : j < n) (u : Value) (y : α) (_ : enc y = (enc L[k]).set j u), (L.flatMap enc).set (k * n + j) u = (L.set k y).flatMap enc := by
  intro L
  induction L with
  | nil => intro k hk; simp at hk
  | cons a L ih =>
    intro k hk j hj u y hy
    rw [List.flatMap_cons]
    cases k with
    | zero =>
      rw [List.set_append_left _ _ (by rw [he]; omega)]
      simp only [List.getElem_cons_zero] at hy
      simp [hy]
    | succ k =>
      rw [List.set_append_right _ _ (by rw [he, Nat.add_mul]; omega), he]
      have e : (k + 1) * n + j - n = k * n + j := by rw [Nat.add_mul]; omega
      rw [e, ih k (by simpa using hk) j hj u y (by simpa using hy)]
      simp
/-- a store into the list's own row -/
theorem OwnG.store {α : Type} {ty : TypeId} {size : Nat} {enc : α → List Value} {w : World} {B g n cap : Nat} {L : List α} (he : ∀ x, (enc x).length = size) (h : OwnG ty size enc w B (.slice (some ⟨g, 0, none⟩) n cap) L)
    (k : Nat) (hk : k < L.length) (j : Nat) (hj : j < size) (u : Value) (y : α) (hy : enc y = (enc L[k]).set j u) (q : Nat) (hq : q = k * size + j) :
    OwnG ty size enc (w.setCell ⟨g, q, none⟩ u) B (.slice (some ⟨g, 0, none⟩) n cap) (L.set k y) ∧ w.grownBy (w.setCell ⟨g, q, none⟩ u) (some g) := by
  subst hq
  obtain ⟨A, c, hv, _⟩ := OwnG.rd h
  obtain ⟨rfl, rfl, rfl⟩ : some (⟨g, 0, none⟩ : Addr) = A ∧ n = L.length ∧ cap = c := by simpa using hv
  have := World.ownsRow.stored h (k * size + j) u
  refine ⟨?_, this.2⟩
  unfold OwnG
  rw [List.length_set, ← flat_set he L k hk j hj u y hy]; exact this.1
theorem OwnG.cellAt {α : Type} {ty : TypeId} {size : Nat} {enc : α → List Value} {w : World} {B g n cap : Nat} {L : List α} (he : ∀ x, (enc x).length = size) (h : OwnG ty size enc w B (.slice (some ⟨g, 0, none⟩) n cap) L)
    (k : Nat) (hk : k < L.length) (j : Nat) (hj : j < size) (q : Nat) (hq : q = k * size + j) : w.cell? ⟨g, q, none⟩ = (enc L[k])[j]? ∧ w.frozen? ⟨g, q, none⟩ = false ∧ g < w.heap.size := by
  subst hq
  obtain ⟨A, c, hv, _⟩ := OwnG.rd h
  obtain ⟨rfl, rfl, rfl⟩ : some (⟨g, 0, none⟩ : Addr) = A ∧ n = L.length ∧ cap = c := by simpa using hv
  have hl := h.1
  have hlt : k * size + j < L.length * size := by
    have := Nat.mul_le_mul_right size hk; rw [Nat.succ_mul] at this; omega
  refine ⟨?_, World.ownsRow.frozenAt h _, (World.ownsRow.lt h g rfl).2⟩
  rw [World.ownsRow.cellAt h _ hlt, flat_get he L k hk j hj]
theorem OwnG.form {α : Type} {ty : TypeId} {size : Nat} {enc : α → List Value} {w : World} {B : Nat} {v : Value} {L : List α} (h : OwnG ty size enc w B v L) : (v = .slice none 0 0 ∧ L = []) ∨ ∃ g cap, v = .slice (some ⟨g, 0, none⟩) L.length cap ∧ B ≤ g := by
  rcases h.2 with ⟨rfl, hn⟩ | ⟨g, cap, cur, rfl, hbg, _⟩
  · exact .inl ⟨rfl, List.length_eq_zero_iff.1 hn⟩
  · exact .inr ⟨g, cap, rfl, hbg⟩
theorem set_take {α : Type} {M L : List α} {k : Nat} (hM : M.length = L.length) (hk : k < L.length) (h : M.take k = L.take k) (y : α) (hy : y = L[k]) : (M.set k y).take (k + 1) = L.take (k + 1) := by
  apply List.ext_getElem?
  intro i
  rw [List.getElem?_take, List.getElem?_take]
  split
  · rename_i hi
    by_cases e : i = k
    · subst e; rw [List.getElem?_set_self (by omega), List.getElem?_eq_getElem hk, hy]
    · rw [List.getElem?_set_ne (by omega)]
      have := congrArg (fun l : List α => l[i]?) h
      simp only [List.getElem?_take] at this
      rw [if_pos (by omega), if_pos (by omega)] at this; exact this
  · rfl
end Go.Proofs.Ytoiglenodiomhaa
