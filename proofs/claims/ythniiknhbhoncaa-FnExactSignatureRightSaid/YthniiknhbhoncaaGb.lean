/-
  The verifier's own text: RdG AppAll ArgG OwnB Rd Open MarkL DigT LawG.
-/
import Derived.Test.YthniiknhbhoncaaRows
import Derived.Test.YthniiknhbhoncaaGa
import Derived.Laws.NewBlocks
import Derived.Deep.RegionLaw
import Derived.Deep.Slices
import Derived.Deep.Fields
import Derived.Lib.AppendStr
import Derived.IntWalk
import Derived.WalkKit
import Derived.ProofKit
import Derived.Below
import Derived.Lib.Hide
import Derived.Outline
import Derived.BigQuiet
import Derived.Deep.QuietTactic
import Derived.Deep.Draws
import Derived.Laws.OwnMore
import Derived.Laws.Rows
import Derived.WalkSpells
import Derived.Deep.RegionWith
namespace Go.Proofs.Ythniiknhbhoncaa
open Go.RowKit
set_option linter.unusedVariables false
/-- a slice value that reads as a list, each element as its cells -/
def RdG {α : Type} (enc : α → List Value) (w : World) (v : Value) (L : List α) : Prop :=
  ∃ (A : Option Addr) (c : Nat), v = .slice A L.length c ∧ L.length ≤ c ∧ c ≤ maxLen ∧
    (L = [] ∨ ∃ b o, A = some ⟨b, o, none⟩ ∧ b < w.heap.size ∧ ∀ j u, (L.flatMap enc)[j]? = some u → w.cell? ⟨b, o + j, none⟩ = some u)
/-- the place where it begins; any where nothing is there -/
theorem RdG.nil {α : Type} {enc : α → List Value} {w : World} {v : Value} (h : RdG enc w v []) : ∃ A c, v = .slice A 0 c ∧ c ≤ maxLen := by
  obtain ⟨A, c, rfl, _, h2, _⟩ := h; exact ⟨A, c, rfl, h2⟩
theorem RdG.some {α : Type} {enc : α → List Value} {w : World} {v : Value} {L : List α} (h : RdG enc w v L) (hn : L ≠ []) :
    ∃ b o c, v = .slice (some ⟨b, o, none⟩) L.length c ∧ L.length ≤ c ∧ c ≤ maxLen ∧ b < w.heap.size ∧ ∀ j u, (L.flatMap enc)[j]? = some u → w.cell? ⟨b, o + j, none⟩ = some u := by
  obtain ⟨A, c, rfl, h1, h2, h3⟩ := h
  rcases h3 with h3 | ⟨b, o, rfl, hb, h4⟩
  · exact absurd h3 hn
  · exact ⟨b, o, c, rfl, h1, h2, hb, h4⟩
theorem flat_get {α : Type} {enc : α → List Value} {n : Nat} (he : ∀ x, (enc x).length = n) : ∀ (L : List α) (k : Nat) (hk : k < L.length) (j : Nat), j < n → (L.flatMap enc)[k * n + j]? = (enc L[k])[j]? := by
  intro L
  induction L with
  | nil => intro k hk; simp at hk
  | cons a L ih =>
    intro k hk j hj
    rw [List.flatMap_cons]
    cases k with
    | zero => rw [List.getElem?_append_left (by rw [he]; omega)]; simp
    | succ k =>
      rw [List.getElem?_append_right (by rw [he, Nat.add_mul]; omega), he]
      have : (k + 1) * n + j - n = k * n + j := by rw [Nat.add_mul]; omega
      rw [this, ih k (by simpa using hk) j hj]; simp
theorem flat_len {α : Type} {enc : α → List Value} {n : Nat} (he : ∀ x, (enc x).length = n) (L : List α) : (L.flatMap enc).length = L.length * n := by
  induction L with
  | nil => simp
  | cons a L ih => rw [List.flatMap_cons, List.length_append, ih, he, List.length_cons, Nat.add_mul]; omega
theorem RdG.below {α : Type} {enc : α → List Value} {w w' : World} {v : Value} {L : List α} (h : RdG enc w v L) (hb : Below w.heap.size w w') : RdG enc w' v L := by
  obtain ⟨A, c, rfl, h1, h2, h3⟩ := h
  refine ⟨A, c, rfl, h1, h2, ?_⟩
  rcases h3 with h3 | ⟨b, o, rfl, hlt, h4⟩
  · exact .inl h3
  · refine .inr ⟨b, o, rfl, Nat.lt_of_lt_of_le hlt hb.size, fun j u hj => ?_⟩
    rw [hb.cell (p := ⟨b, o + j, none⟩) hlt]; exact h4 j u hj
/-- an owned list -/
def OwnG {α : Type} (ty : TypeId) (size : Nat) (enc : α → List Value) (w : World) (B : Nat) (v : Value) (L : List α) : Prop := w.ownsRow B ty size v L.length (L.flatMap enc)
theorem OwnG.grown {α : Type} {ty : TypeId} {size : Nat} {enc : α → List Value} {w w' : World} {B : Nat} {v : Value} {L : List α} (h : OwnG ty size enc w B v L) (hb : Below w.heap.size w w') : OwnG ty size enc w' B v L := by
  refine ⟨h.1, ?_⟩
  rcases h.2 with hn | ⟨g, cap, cur, rfl, hbg, hgg, rest⟩
  · exact .inl hn
  · refine .inr ⟨g, cap, cur, rfl, hbg, ?_, rest⟩
    rw [hb.block g (Array.getElem?_eq_some_iff.1 hgg).1]; exact hgg
theorem OwnG.ge {α : Type} {ty : TypeId} {size : Nat} {enc : α → List Value} {w : World} {B : Nat} {v : Value} {L : List α} (h : OwnG ty size enc w B v L) : ∀ k, v.ownBlock = some k → B ≤ k := fun k hk => (World.ownsRow.lt h k hk).1
theorem OwnG.base {α : Type} {ty : TypeId} {size : Nat} {enc : α → List Value} {w : World} {B B' : Nat} {v : Value} {L : List α} (h : OwnG ty size enc w B v L) (hb : B' ≤ B) : OwnG ty size enc w B' v L := by
  refine ⟨h.1, ?_⟩
  rcases h.2 with hn | ⟨g, cap, cur, rfl, hbg, rest⟩
  · exact .inl hn
  · exact .inr ⟨g, cap, cur, rfl, Nat.le_trans hb hbg, rest⟩
theorem OwnG.rd {α : Type} {ty : TypeId} {size : Nat} {enc : α → List Value} {w : World} {B : Nat} {v : Value} {L : List α} (h : OwnG ty size enc w B v L) : RdG enc w v L := by
  have hl := h.1
  rcases h.2 with ⟨rfl, hn⟩ | ⟨g, cap, cur, rfl, hbg, hgg, h1, h2, h3, h4⟩
  · have : L = [] := List.length_eq_zero_iff.1 hn
    subst this
    exact ⟨none, 0, rfl, by simp, by simp, .inl rfl⟩
  · refine ⟨some ⟨g, 0, none⟩, cap, rfl, h1, h2, .inr ⟨g, 0, rfl, (Array.getElem?_eq_some_iff.1 hgg).1, fun j u hj => ?_⟩⟩
    rw [Nat.zero_add]
    have hj' : j < L.length * size := by rw [← hl]; exact (List.getElem?_eq_some_iff.1 hj).1
    have := World.ownsRow.cellAt (g := g) (cap := cap) (h : w.ownsRow B ty size (.slice (some ⟨g, 0, none⟩) L.length cap) L.length (L.flatMap enc)) j hj'
    rw [this]; exact hj
theorem ownG_nil {α : Type} (ty : TypeId) (size : Nat) (enc : α → List Value) (w : World) (B : Nat) : OwnG ty size enc w B (.slice none 0 0) [] := World.ownsRow_nil w B ty size
/-- an append of one -/
theorem app_one {α : Type} {enc : α → List Value} {P : Program} {ops : Array Oper} {rest : List Oper} {o : Oper} {a : Act} {Q : Exit → Act → World → Prop} {w : World} (hgd : o.guard = none) (s x : Operand) (t : TypeId)
    (ho : o.op = .call { callee := .builtin .append, args := #[s, x], argTypes := #[t, t] }) (ty : TypeId) (size bytes : Nat) (z : Value) (ht : P.underlying t = some (.slice ty)) (hi0 : (P.info? ty).map (fun i => (i.zero, i.size, i.bytes)) = some (some z, size, bytes))
    (hz : z.cells.size = size) (hsz0 : 0 < size) (hby : bytes ≤ 4096) (he : ∀ x, (enc x).length = size) (h1 : ∀ x u, u ∈ enc x → u.oneCell' = true)
    (W : World) (v : Value) (L : List α) (c : α) (hs : a.eval s = v) (hown : OwnG ty size enc w W.heap.size v L) (hb : Below W.heap.size W w) (g : Nat) (hgz : w.heap.size = g) (hx : a.eval x = .slice (some ⟨g, 0, none⟩) 1 1) (hl : L.length ≤ 1073741824)
    (h : ∀ v' w', OwnG ty size enc w' W.heap.size v' (L ++ [c]) → Below W.heap.size W w' → wpList P ops Q rest (a.put o.dst v') w') : wpList P ops Q (o :: rest) a (w.alloc (.cells (enc c).toArray ty)) := by
  subst hgz
  obtain ⟨i0, hi, hz0, hz1, hz2⟩ := info_parts hi0
  have hsz := hb.size
  refine wpList_append_own (w := w.alloc (.cells (enc c).toArray ty)) hgd s x t ho W.heap.size ty i0 z size bytes ht hi hz0 hz1 hz2 hz hsz0 v L.length _ hs (World.ownsRow.alloc hown _) ⟨w.heap.size, 0, none⟩ 1 1 (enc c) hx (by rw [he]; omega) ?_ (h1 c) ?_ ?_ ?_ ?_
  · intro j u hj
    have : (⟨w.heap.size, 0, none⟩ : Addr).add j = ⟨w.heap.size, j, none⟩ := by unfold Addr.add; split <;> simp_all
    rw [this, World.cell?_alloc_new]; simpa using hj
  · unfold maxLen; omega
  · have := Nat.mul_le_mul_left (L.length + 1) hby; omega
  · simp; omega
  · intro v' w' h1 h2 _
    refine h v' w' ?_ ((hb.alloc hsz _).grown h2 (by simp; omega) (fun k hk => hown.ge k hk))
    unfold OwnG
    rw [List.length_append, List.flatMap_append]
    simpa using h1
theorem OwnG.row {α : Type} {ty : TypeId} {size : Nat} {enc : α → List Value} {w w' : World} {B : Nat} {v : Value} {L : List α} {row : Option Nat} (h : OwnG ty size enc w B v L) (hg : w.grownBy w' row) (hne : ∀ k, row = some k → k < B) : OwnG ty size enc w' B v L := by
  refine ⟨h.1, ?_⟩
  rcases h.2 with hn | ⟨g, cap, cur, rfl, hbg, hgg, rest⟩
  · exact .inl hn
  · refine .inr ⟨g, cap, cur, rfl, hbg, ?_, rest⟩
    rw [hg.block g (Array.getElem?_eq_some_iff.1 hgg).1 (fun e => by have := hne g e.symm; omega)]; exact hgg
/-- an append of one, over any base; only the list's own block turns -/
theorem app_gen {α : Type} {enc : α → List Value} {P : Program} {ops : Array Oper} {rest : List Oper} {o : Oper} {a : Act} {Q : Exit → Act → World → Prop} {w : World} (hgd : o.guard = none) (s x : Operand) (t : TypeId)
    (ho : o.op = .call { callee := .builtin .append, args := #[s, x], argTypes := #[t, t] }) (ty : TypeId) (size bytes : Nat) (z : Value) (ht : P.underlying t = some (.slice ty)) (hi0 : (P.info? ty).map (fun i => (i.zero, i.size, i.bytes)) = some (some z, size, bytes))
    (hz : z.cells.size = size) (hsz0 : 0 < size) (hby : bytes ≤ 4096) (he : ∀ x, (enc x).length = size) (h1 : ∀ x u, u ∈ enc x → u.oneCell' = true)
    (B : Nat) (v : Value) (L : List α) (c : α) (hs : a.eval s = v) (hown : OwnG ty size enc w B v L) (hB : B ≤ w.heap.size) (g : Nat) (hgz : w.heap.size = g) (hx : a.eval x = .slice (some ⟨g, 0, none⟩) 1 1) (hl : L.length ≤ 1073741824)
    (h : ∀ v' w', OwnG ty size enc w' B v' (L ++ [c]) → w.grownBy w' v.ownBlock → wpList P ops Q rest (a.put o.dst v') w') : wpList P ops Q (o :: rest) a (w.alloc (.cells (enc c).toArray ty)) := by
  subst hgz
  obtain ⟨i0, hi, hz0, hz1, hz2⟩ := info_parts hi0
  refine wpList_append_own (w := w.alloc (.cells (enc c).toArray ty)) hgd s x t ho B ty i0 z size bytes ht hi hz0 hz1 hz2 hz hsz0 v L.length _ hs (World.ownsRow.alloc hown _) ⟨w.heap.size, 0, none⟩ 1 1 (enc c) hx (by rw [he]; omega) ?_ (h1 c) ?_ ?_ ?_ ?_
  · intro j u hj
    have : (⟨w.heap.size, 0, none⟩ : Addr).add j = ⟨w.heap.size, j, none⟩ := by unfold Addr.add; split <;> simp_all
    rw [this, World.cell?_alloc_new]; simpa using hj
  · unfold maxLen; omega
  · have := Nat.mul_le_mul_left (L.length + 1) hby; omega
  · simp; omega
  · intro v' w' h1 h2 _
    refine h v' w' ?_ (grown_trans (grown_alloc w _ _) h2)
    unfold OwnG
    rw [List.length_append, List.flatMap_append]
    simpa using h1
/-- the same, as one step of a region that draws (go_region_law) -/
theorem step_gen {α : Type} {enc : α → List Value} {P : Program} {ops : Array Oper} {o : Oper} {a : Act} {K : Act → World → Prop} {Q : Exit → Act → World → Prop} {E : Prop} {w : World} (hgd : o.guard = none) (s x : Operand) (t : TypeId)
    (ho : o.op = .call { callee := .builtin .append, args := #[s, x], argTypes := #[t, t] }) (ty : TypeId) (size bytes : Nat) (z : Value) (ht : P.underlying t = some (.slice ty)) (hi0 : (P.info? ty).map (fun i => (i.zero, i.size, i.bytes)) = some (some z, size, bytes))
    (hz : z.cells.size = size) (hsz0 : 0 < size) (hby : bytes ≤ 4096) (he : ∀ x, (enc x).length = size) (h1 : ∀ x u, u ∈ enc x → u.oneCell' = true)
    (B : Nat) (v : Value) (L : List α) (c : α) (hs : a.eval s = v) (hown : OwnG ty size enc w B v L) (hB : B ≤ w.heap.size) (g : Nat) (hgz : w.heap.size = g) (hx : a.eval x = .slice (some ⟨g, 0, none⟩) 1 1) (hl : L.length ≤ 1073741824)
    (h : ∀ v' w', OwnG ty size enc w' B v' (L ++ [c]) → w.grownBy w' v.ownBlock → K (a.put o.dst v') w') : if Region.wanted o (yielded ops a.tmps) = true then Oper.wp P o a (w.alloc (.cells (enc c).toArray ty)) K Q else E := by
  have hw : Region.wanted o (yielded ops a.tmps) = true := by simp [Region.wanted, hgd]
  rw [if_pos hw]
  subst hgz
  obtain ⟨i0, hi, hz0, hz1, hz2⟩ := info_parts hi0
  refine wp_append_own (w := w.alloc (.cells (enc c).toArray ty)) s x t ho B ty i0 z size bytes ht hi hz0 hz1 hz2 hz hsz0 v L.length _ hs (World.ownsRow.alloc hown _) ⟨w.heap.size, 0, none⟩ 1 1 (enc c) hx (by rw [he]; omega) ?_ (h1 c) ?_ ?_ ?_ ?_
  · intro j u hj
    have : (⟨w.heap.size, 0, none⟩ : Addr).add j = ⟨w.heap.size, j, none⟩ := by unfold Addr.add; split <;> simp_all
    rw [this, World.cell?_alloc_new]; simpa using hj
  · unfold maxLen; omega
  · have := Nat.mul_le_mul_left (L.length + 1) hby; omega
  · simp; omega
  · intro v' w' h1 h2 _
    refine h v' w' ?_ (grown_trans (grown_alloc w _ _) h2)
    unfold OwnG
    rw [List.length_append, List.flatMap_append]
    simpa using h1
theorem flat_set {α : Type} {enc : α → List Value} {n : Nat} (he : ∀ x, (enc x).length = n) : ∀ (L : List α) (k : Nat) (hk : k < L.length) (j : Nat) (_ : j < n) (u : Value) (y : α) (_ : enc y = (enc L[k]).set j u), (L.flatMap enc).set (k * n + j) u = (L.set k y).flatMap enc := by
  intro L
  induction L with
  | nil => intro k hk; simp at hk
  | cons a L ih =>
    intro k hk j hj u y hy
    rw [List.flatMap_cons]
    cases k with
    | zero =>
      rw [List.set_append_left _ _ (by rw [he]; omega)]
      simp only [List.getElem_cons_zero] at hy
      simp [hy]
    | succ k =>
      rw [List.set_append_right _ _ (by rw [he, Nat.add_mul]; omega), he]
      have e : (k + 1) * n + j - n = k * n + j := by rw [Nat.add_mul]; omega
      rw [e, ih k (by simpa using hk) j hj u y (by simpa using hy)]
      simp
/-- a store into the list's own row -/
theorem OwnG.store {α : Type} {ty : TypeId} {size : Nat} {enc : α → List Value} {w : World} {B g n cap : Nat} {L : List α} (he : ∀ x, (enc x).length = size) (h : OwnG ty size enc w B (.slice (some ⟨g, 0, none⟩) n cap) L)
    (k : Nat) (hk : k < L.length) (j : Nat) (hj : j < size) (u : Value) (y : α) (hy : enc y = (enc L[k]).set j u) (q : Nat) (hq : q = k * size + j) :
    OwnG ty size enc (w.setCell ⟨g, q, none⟩ u) B (.slice (some ⟨g, 0, none⟩) n cap) (L.set k y) ∧ w.grownBy (w.setCell ⟨g, q, none⟩ u) (some g) := by
  subst hq
  obtain ⟨A, c, hv, _⟩ := OwnG.rd h
  obtain ⟨rfl, rfl, rfl⟩ : some (⟨g, 0, none⟩ : Addr) = A ∧ n = L.length ∧ cap = c := by simpa using hv
  have := World.ownsRow.stored h (k * size + j) u
  refine ⟨?_, this.2⟩
  unfold OwnG
  rw [List.length_set, ← flat_set he L k hk j hj u y hy]; exact this.1
theorem OwnG.cellAt {α : Type} {ty : TypeId} {size : Nat} {enc : α → List Value} {w : World} {B g n cap : Nat} {L : List α} (he : ∀ x, (enc x).length = size) (h : OwnG ty size enc w B (.slice (some ⟨g, 0, none⟩) n cap) L)
    (k : Nat) (hk : k < L.length) (j : Nat) (hj : j < size) (q : Nat) (hq : q = k * size + j) : w.cell? ⟨g, q, none⟩ = (enc L[k])[j]? ∧ w.frozen? ⟨g, q, none⟩ = false ∧ g < w.heap.size := by
  subst hq
  obtain ⟨A, c, hv, _⟩ := OwnG.rd h
  obtain ⟨rfl, rfl, rfl⟩ : some (⟨g, 0, none⟩ : Addr) = A ∧ n = L.length ∧ cap = c := by simpa using hv
  have hl := h.1
  have hlt : k * size + j < L.length * size := by
    have := Nat.mul_le_mul_right size hk; rw [Nat.succ_mul] at this; omega
  refine ⟨?_, World.ownsRow.frozenAt h _, (World.ownsRow.lt h g rfl).2⟩
  rw [World.ownsRow.cellAt h _ hlt, flat_get he L k hk j hj]
theorem OwnG.form {α : Type} {ty : TypeId} {size : Nat} {enc : α → List Value} {w : World} {B : Nat} {v : Value} {L : List α} (h : OwnG ty size enc w B v L) : (v = .slice none 0 0 ∧ L = []) ∨ ∃ g cap, v = .slice (some ⟨g, 0, none⟩) L.length cap ∧ B ≤ g := by
  rcases h.2 with ⟨rfl, hn⟩ | ⟨g, cap, cur, rfl, hbg, _⟩
  · exact .inl ⟨rfl, List.length_eq_zero_iff.1 hn⟩
  · exact .inr ⟨g, cap, rfl, hbg⟩
theorem set_take {α : Type} {M L : List α} {k : Nat} (hM : M.length = L.length) (hk : k < L.length) (h : M.take k = L.take k) (y : α) (hy : y = L[k]) : (M.set k y).take (k + 1) = L.take (k + 1) := by
  apply List.ext_getElem?
  intro i
  rw [List.getElem?_take, List.getElem?_take]
  split
  · rename_i hi
    by_cases e : i = k
    · subst e; rw [List.getElem?_set_self (by omega), List.getElem?_eq_getElem hk, hy]
    · rw [List.getElem?_set_ne (by omega)]
      have := congrArg (fun l : List α => l[i]?) h
      simp only [List.getElem?_take] at this
      rw [if_pos (by omega), if_pos (by omega)] at this; exact this
  · rfl
/-- append with nothing behind -/
theorem run_app_none {P : Program} (w : World) (t ty e : TypeId) (i : TypeInfo) (ht : P.underlying t = some (.slice e)) (hi : P.info? e = some i) (A : Option Addr) (n cap c : Nat) (h : n ≤ cap) :
    (Builtin.append_ #[t, t] ty #[.slice A n cap, .slice none 0 c]).run P w = .ok (.slice A n cap) w := by
  cases A with
  | none => simp [Builtin.append_, run_underlying ht, sizeOf, typeInfo, hi, Builtin.lenOf, h, Builtin.firstCells]
  | some a => simp [Builtin.append_, run_underlying ht, sizeOf, typeInfo, hi, Builtin.lenOf, h, Builtin.firstCells, storeCells]
theorem OwnG.room {α : Type} {ty : TypeId} {size : Nat} {enc : α → List Value} {w : World} {B : Nat} {v : Value} {L : List α} (h : OwnG ty size enc w B v L) : ∃ A cap, v = .slice A L.length cap ∧ L.length ≤ cap := by
  obtain ⟨A, c, hv, hc, _⟩ := OwnG.rd h; exact ⟨A, c, hv, hc⟩
/-- an append of a whole list -/
theorem wp_app_all {α : Type} {enc : α → List Value} {P : Program} {o : Oper} {a : Act} {K : Act → World → Prop} {Q : Exit → Act → World → Prop} {w : World} (s x : Operand) (t : TypeId)
    (ho : o.op = .call { callee := .builtin .append, args := #[s, x], argTypes := #[t, t] }) (ty : TypeId) (size bytes : Nat) (z : Value) (ht : P.underlying t = some (.slice ty)) (hi0 : (P.info? ty).map (fun i => (i.zero, i.size, i.bytes)) = some (some z, size, bytes))
    (hz : z.cells.size = size) (hsz0 : 0 < size) (hby : bytes ≤ 4096) (he : ∀ x, (enc x).length = size) (h1 : ∀ x u, u ∈ enc x → u.oneCell' = true)
    (B : Nat) (v u : Value) (L M : List α) (hs : a.eval s = v) (hown : OwnG ty size enc w B v L) (hB : B ≤ w.heap.size) (hx : a.eval x = u) (hrd : RdG enc w u M) (hl : L.length + M.length ≤ 1073741824)
    (h : ∀ v' w', OwnG ty size enc w' B v' (L ++ M) → w.grownBy w' v.ownBlock → K (a.put o.dst v') w') : o.wp P a w K Q := by
  obtain ⟨i0, hi, hz0, hz1, hz2⟩ := info_parts hi0
  have hb : (L.length + M.length) * bytes ≤ 140737488355328 := by have := Nat.mul_le_mul_left (L.length + M.length) hby; omega
  have fin : ∀ v' w', w'.ownsRow B ty size v' (L.length + M.length) (L.flatMap enc ++ M.flatMap enc) → w.grownBy w' v.ownBlock → (v' = .slice none 0 0 ↔ v = .slice none 0 0 ∧ M.length = 0) → K (a.put o.dst v') w' := fun v' w' h2 h3 _ => by
    refine h v' w' ?_ h3
    unfold OwnG
    rw [List.length_append, List.flatMap_append]; exact h2
  by_cases hM : M = []
  · subst hM
    obtain ⟨A, c, rfl, hc⟩ := hrd.nil
    cases A with
    | none =>
      obtain ⟨A', cap, hv, hcap⟩ := OwnG.room hown
      have hr := run_app_none (P := P) w t o.type ty i0 ht hi A' L.length cap c hcap
      rw [← hv] at hr
      unfold Oper.wp execOp
      simp only [ho, resolve, invoke, builtin, Sem.run_bind, Sem.run_pure, Result.andThen_ok, List.map_toArray, List.map_cons, List.map_nil, hs, hx, hr]
      exact h v w (by simpa using hown) (grown_refl _ _)
    | some ad =>
      exact wp_append_own w s x t ho B ty i0 z size bytes ht hi hz0 hz1 hz2 hz hsz0 v L.length _ hs hown ad 0 c [] hx (by simp) (by simp) (by simp) (by unfold maxLen; simp at hl; omega) (by simpa using hb) hB (by simpa using fin)
  · obtain ⟨b, o', c, rfl, hc, hm, hbl, hcells⟩ := hrd.some hM
    exact wp_append_own w s x t ho B ty i0 z size bytes ht hi hz0 hz1 hz2 hz hsz0 v L.length _ hs hown ⟨b, o', none⟩ M.length c (M.flatMap enc) hx (flat_len he M) (fun j q hj => by
      have : (⟨b, o', none⟩ : Addr).add j = ⟨b, o' + j, none⟩ := by unfold Addr.add; split <;> simp_all
      rw [this]; exact hcells j q hj) (fun q hq => by
      obtain ⟨y, _, hy⟩ := List.mem_flatMap.1 hq
      exact h1 y q hy) (by unfold maxLen; omega) hb hB fin
theorem app_all {α : Type} {enc : α → List Value} {P : Program} {ops : Array Oper} {rest : List Oper} {o : Oper} {a : Act} {Q : Exit → Act → World → Prop} {w : World} (hgd : o.guard = none) (s x : Operand) (t : TypeId)
    (ho : o.op = .call { callee := .builtin .append, args := #[s, x], argTypes := #[t, t] }) (ty : TypeId) (size bytes : Nat) (z : Value) (ht : P.underlying t = some (.slice ty)) (hi0 : (P.info? ty).map (fun i => (i.zero, i.size, i.bytes)) = some (some z, size, bytes))
    (hz : z.cells.size = size) (hsz0 : 0 < size) (hby : bytes ≤ 4096) (he : ∀ x, (enc x).length = size) (h1 : ∀ x u, u ∈ enc x → u.oneCell' = true)
    (B : Nat) (v u : Value) (L M : List α) (hs : a.eval s = v) (hown : OwnG ty size enc w B v L) (hB : B ≤ w.heap.size) (hx : a.eval x = u) (hrd : RdG enc w u M) (hl : L.length + M.length ≤ 1073741824)
    (h : ∀ v' w', OwnG ty size enc w' B v' (L ++ M) → w.grownBy w' v.ownBlock → wpList P ops Q rest (a.put o.dst v') w') : wpList P ops Q (o :: rest) a w :=
  wpList_plain hgd fun _ hK => wp_app_all s x t ho ty size bytes z ht hi0 hz hsz0 hby he h1 B v u L M hs hown hB hx hrd hl fun v' w' h2 h3 => hK _ _ (h v' w' h2 h3)
/-- the same, as one step of a region that draws (go_region_law) -/
theorem step_all {α : Type} {enc : α → List Value} {P : Program} {ops : Array Oper} {o : Oper} {a : Act} {K : Act → World → Prop} {Q : Exit → Act → World → Prop} {E : Prop} {w : World} (hgd : o.guard = none) (s x : Operand) (t : TypeId)
    (ho : o.op = .call { callee := .builtin .append, args := #[s, x], argTypes := #[t, t] }) (ty : TypeId) (size bytes : Nat) (z : Value) (ht : P.underlying t = some (.slice ty)) (hi0 : (P.info? ty).map (fun i => (i.zero, i.size, i.bytes)) = some (some z, size, bytes))
    (hz : z.cells.size = size) (hsz0 : 0 < size) (hby : bytes ≤ 4096) (he : ∀ x, (enc x).length = size) (h1 : ∀ x u, u ∈ enc x → u.oneCell' = true)
    (B : Nat) (v u : Value) (L M : List α) (hs : a.eval s = v) (hown : OwnG ty size enc w B v L) (hB : B ≤ w.heap.size) (hx : a.eval x = u) (hrd : RdG enc w u M) (hl : L.length + M.length ≤ 1073741824)
    (h : ∀ v' w', OwnG ty size enc w' B v' (L ++ M) → w.grownBy w' v.ownBlock → K (a.put o.dst v') w') : if Region.wanted o (yielded ops a.tmps) = true then Oper.wp P o a w K Q else E := by
  have hw : Region.wanted o (yielded ops a.tmps) = true := by simp [Region.wanted, hgd]
  rw [if_pos hw]
  exact wp_app_all s x t ho ty size bytes z ht hi0 hz hsz0 hby he h1 B v u L M hs hown hB hx hrd hl h
theorem pick_list {α : Type} {Q : Nat → α → Prop} : ∀ (n : Nat), (∀ i, i < n → ∃ y, Q i y) → ∃ L : List α, L.length = n ∧ ∀ i (hi : i < L.length), Q i L[i] := by
  intro n
  induction n with
  | zero => intro _; exact ⟨[], rfl, by intro i hi; simp at hi⟩
  | succ n ih =>
    intro h
    obtain ⟨L, hl, hq⟩ := ih (fun i hi => h i (by omega))
    obtain ⟨y, hy⟩ := h n (by omega)
    refine ⟨L ++ [y], by simp [hl], fun i hi => ?_⟩
    by_cases e : i < L.length
    · rw [List.getElem_append_left e]; exact hq i e
    · have e2 : i = L.length := by simp at hi; omega
      subst e2
      rw [List.getElem_append_right (Nat.le_refl _)]
      simp only [Nat.sub_self, List.getElem_cons_zero]
      rw [hl]; exact hy
theorem add_add_lit (b o p q : Nat) : ((⟨b, o, none⟩ : Addr).add p).add q = ⟨b, o + (p + q), none⟩ := by
  unfold Addr.add
  by_cases hp0 : p = 0 <;> by_cases hq0 : q = 0 <;> simp [hp0, hq0, Nat.add_assoc]
/-- an argument that is a slice of structs, as a list -/
theorem rd_arg {α : Type} {enc : α → List Value} {P : Program} {w : World} {H : Type} {en : TypeId × Value → H} {spare : Nat → Bool} {held : Bool} {t e : TypeId} {fuel : Nat} {A : Option Addr} {n c : Nat} {cs : List Value} {x : DataW H × List MemPlace} (size : Nat) (hs0 : 0 < size)
    (ht : P.underlying t = some (.slice e)) (hC : P.cellsOf e = size) (he : ∀ y, (enc y).length = size) (good : α → Prop) (hel : ∀ m cs' x', DataW.trod en P w 0 spare held m e cs' = some x' → ∃ y, cs' = enc y ∧ good y)
    (hcs : cs = [.slice A n c]) (h : DataW.trod en P w 0 spare held fuel t cs = some x) : ∃ L : List α, L.length = n ∧ RdG enc w (.slice A n c) L ∧ ∀ y ∈ L, good y := by
  subst hcs
  rcases Go.Deep.open_slice ht h with ⟨h0, _⟩ | ⟨a, len, cap, m, n', D, Pl, hcs, hb, hl, hm, hmm, hx, hi⟩
  · simp at h0
    obtain ⟨rfl, rfl, rfl⟩ := h0
    exact ⟨[], rfl, ⟨none, 0, rfl, by simp, by simp, .inl rfl⟩, by intro y m; simp at m⟩
  · simp at hcs
    obtain ⟨rfl, rfl, rfl⟩ := hcs
    have hle : n ≤ m := by rw [hmm]; split <;> omega
    obtain ⟨L, hL, hq⟩ := pick_list (Q := fun i y => w.cells? 0 (a.add (i * size)) size = some (enc y) ∧ good y) n (fun i hin => by
      obtain ⟨cs', h1, h2⟩ := hi i (by omega)
      rw [hC] at h1
      obtain ⟨y, hy, hg⟩ := hel _ _ _ h2
      exact ⟨y, by rw [← hy]; exact h1, hg⟩)
    refine ⟨L, hL, ⟨some a, c, by rw [hL], by omega, hm, ?_⟩, fun y hy => ?_⟩
    · by_cases h0 : L = []
      · exact .inl h0
      · right
        have hp : 0 < L.length := List.length_pos_iff.2 h0
        have hcell : ∀ k (hk : k < L.length) r, r < size → w.cell? ((a.add (k * size)).add r) = (enc L[k])[r]? := fun k hk r hr => (World.cells?_some (hq k hk).1).2.2 r hr
        obtain ⟨u, hu⟩ : ∃ u, (enc (L[0]'hp))[0]? = some u := ⟨(enc (L[0]'hp))[0]'(by rw [he]; exact hs0), List.getElem?_eq_getElem _⟩
        have h00 := hcell 0 hp 0 hs0
        rw [hu] at h00
        have ha0 : (a.add (0 * size)).add 0 = a := by simp [Addr.add]
        rw [ha0] at h00
        have hsp : a.spot = none := World.cell?_spot h00
        obtain ⟨b, o, sp⟩ := a
        simp only at hsp
        subst hsp
        refine ⟨b, o, rfl, World.block_lt_of_cell? w _ h00, fun j u hj => ?_⟩
        have hj2 : j < L.length * size := by rw [← flat_len he L]; exact (List.getElem?_eq_some_iff.1 hj).1
        have hk : j / size < L.length := Nat.div_lt_of_lt_mul (by rw [Nat.mul_comm]; exact hj2)
        have hr : j % size < size := Nat.mod_lt _ hs0
        have hjd : j / size * size + j % size = j := by rw [Nat.mul_comm]; exact Nat.div_add_mod j size
        have := hcell (j / size) hk (j % size) hr
        have e1 := add_add_lit b o (j / size * size) (j % size)
        rw [hjd] at e1
        rw [e1, ← flat_get he L _ hk _ hr, hjd, hj] at this
        exact this
    · obtain ⟨i, hi2, rfl⟩ := List.getElem_of_mem hy
      exact (hq i hi2).2
theorem info8 : (Try.prog.info? 5).map (fun i => (i.zero, i.size, i.bytes)) = some (some (.int .u8 0), 1, 1) := by kernel_rfl
/-- a []byte value of the call's own, and its bytes -/
def OwnB (w : World) (B : Nat) (v : Value) (l : List UInt8) : Prop := w.ownsRow B 5 1 v l.length (l.map fun b => Value.int .u8 b.toNat)
theorem OwnB.grown {w w' : World} {B : Nat} {v : Value} {l : List UInt8} (h : OwnB w B v l) (hb : Below w.heap.size w w') : OwnB w' B v l := by
  refine ⟨h.1, ?_⟩
  rcases h.2 with hn | ⟨g, cap, cur, rfl, hbg, hgg, rest⟩
  · exact .inl hn
  · refine .inr ⟨g, cap, cur, rfl, hbg, ?_, rest⟩
    rw [hb.block g (Array.getElem?_eq_some_iff.1 hgg).1]; exact hgg
theorem OwnB.ge {w : World} {B : Nat} {v : Value} {l : List UInt8} (h : OwnB w B v l) : ∀ k, v.ownBlock = some k → B ≤ k := fun k hk => (World.ownsRow.lt h k hk).1
theorem conv_own {w : World} {B : Nat} {v : Value} {l : List UInt8} (h : OwnB w B v l) : (convert 22 9 v).run Try.prog w = .ok (.string (bs l)) w := by
  rcases h.2 with ⟨rfl, hn⟩ | ⟨g, cap, cur, rfl, hbg, hgg, rest⟩
  · have hl : l = [] := List.length_eq_zero_iff.1 hn
    subst hl
    rw [run_convert_bytes_string w _ _ 5 none 0 0 Try.underlying22 Try.underlying5 Try.underlying9]
    rfl
  · refine back_of w g l l.length rfl cap fun j hj => ?_
    have h' : w.ownsRow B 5 1 (.slice (some ⟨g, 0, none⟩) l.length cap) l.length (l.map fun b => Value.int .u8 b.toNat) := h
    rw [h'.cellAt j (by omega)]
    simp [hj]
theorem strCells_bs (s : List UInt8) : Lib.strCells (bs s) = s.map fun b => Value.int .u8 b.toNat := by
  simp [Lib.strCells, bs]
theorem app_byte {ops : Array Oper} {rest : List Oper} {o : Oper} {a : Act} {Q : Exit → Act → World → Prop} {w : World} (hgd : o.guard = none) (s x : Operand)
    (ho : o.op = .call { callee := .builtin .append, args := #[s, x], argTypes := #[22, 22] }) (W : World) (v : Value) (l : List UInt8) (c : UInt8) (hs : a.eval s = v)
    (hown : OwnB w W.heap.size v l) (hb : Below W.heap.size W w) (hx : a.eval x = .slice (some ⟨w.heap.size, 0, none⟩) 1 1) (hl : l.length ≤ 70368744177664)
    (h : ∀ v' w', OwnB w' W.heap.size v' (l ++ [c]) → Below W.heap.size W w' → wpList Try.prog ops Q rest (a.put o.dst v') w') : wpList Try.prog ops Q (o :: rest) a (w.alloc (.cells #[.int .u8 c.toNat] 5)) := by
  obtain ⟨i0, hi, hz0, hz1, hz2⟩ := info_parts info8
  have hsz := hb.size
  refine wpList_append_own (w := w.alloc (.cells #[.int .u8 c.toNat] 5)) hgd s x 22 ho W.heap.size 5 i0 (.int .u8 0) 1 1 Try.underlying22 hi hz0 hz1 hz2 rfl (by decide) v l.length _ hs (World.ownsRow.alloc hown _) ⟨w.heap.size, 0, none⟩ 1 1 [.int .u8 c.toNat] hx rfl ?_ ?_ ?_ ?_ ?_ ?_
  · intro j u hj
    match j, hj with
    | 0, hj =>
      simp at hj; subst hj
      have : (⟨w.heap.size, 0, none⟩ : Addr).add 0 = ⟨w.heap.size, 0, none⟩ := by simp [Addr.add]
      rw [this, World.cell?_alloc_new]; rfl
  · intro u hu; simp at hu; subst hu; rfl
  · unfold maxLen; omega
  · omega
  · simp; omega
  · intro v' w' h1 h2 _
    refine h v' w' ?_ ((hb.alloc hsz _).grown h2 (by simp; omega) (fun k hk => hown.ge k hk))
    unfold OwnB
    rw [List.length_append, List.map_append]; exact h1
theorem app_text {ops : Array Oper} {rest : List Oper} {o : Oper} {a : Act} {Q : Exit → Act → World → Prop} {w : World} (hgd : o.guard = none) (s x : Operand)
    (ho : o.op = .call { callee := .builtin .append, args := #[s, x], argTypes := #[22, 9] }) (W : World) (v : Value) (l t : List UInt8) (hs : a.eval s = v)
    (hown : OwnB w W.heap.size v l) (hb : Below W.heap.size W w) (hx : a.eval x = .string (bs t)) (hl : l.length ≤ 70368744177664) (ht : t.length ≤ 1048576)
    (h : ∀ v' w', OwnB w' W.heap.size v' (l ++ t) → Below W.heap.size W w' → wpList Try.prog ops Q rest (a.put o.dst v') w') : wpList Try.prog ops Q (o :: rest) a w := by
  obtain ⟨i0, hi, hz0, hz1, hz2⟩ := info_parts info8
  have hsz := hb.size
  refine Lib.wpList_append_own_string (w := w) hgd s x 22 9 ho W.heap.size 5 i0 Try.underlying22 Try.underlying9 hi hz0 hz1 hz2 v l.length _ hs hown (bs t) hx ?_ ?_ hsz ?_
  · rw [bs_size]; unfold maxLen; omega
  · rw [bs_size]; omega
  · intro v' w' h1 h2 _
    refine h v' w' ?_ (hb.grown h2 hsz (fun k hk => hown.ge k hk))
    unfold OwnB
    rw [List.length_append, List.map_append, ← strCells_bs t]; exact h1
theorem make_bytes {ops : Array Oper} {rest : List Oper} {o : Oper} {a : Act} {Q : Exit → Act → World → Prop} {w : World} (hg : o.guard = none) (l c : Operand) (hop : o.op = Op.makeSlice 22 l c)
    (W : World) (hb : Below W.heap.size W w) (n : Nat) (hl : a.eval l = .int .i64 0) (hc : a.eval c = .int .i64 n) (hn : n ≤ 70368744177664)
    (hK : ∀ v w', OwnB w' W.heap.size v [] → Below W.heap.size W w' → wpList Try.prog ops Q rest (a.put o.dst v) w') : wpList Try.prog ops Q (o :: rest) a w := by
  obtain ⟨i0, hi, hz0, hz1, hz2⟩ := info_parts info8
  have hsz := hb.size
  refine wpList_make_own w hg l c 22 hop W.heap.size 5 i0 (.int .u8 0) 1 Try.underlying22 hi hz0 hz1 .i64 .i64 n n hl hc rfl ?_ ?_ hsz ?_
  · rw [hz2]; omega
  · unfold maxLen; omega
  · intro w' h1 h2
    exact hK _ w' h1 (hb.grown h2 hsz (fun k hk => by cases hk))
/-- the cells of the code: bytes, below block B -/
def Code8 (w : World) (B : Nat) (A : Option Addr) (n : Nat) : Prop :=
  n ≤ 2000 ∧ (0 < n → ∃ ad, A = some ad ∧ ad.block < B ∧ ∀ i, i < n → ∃ z : Int, w.cell? (ad.add i) = some (.int .u8 z) ∧ 0 ≤ z ∧ z ≤ 255)
def SomeInt (P : Int → Prop) (w : World) (e : Ending) (w' : World) : Prop := ∃ (n : Int) (k : Nat), P n ∧ e = .returned (.int .i64 n) ∧ w' = w.drewN k
theorem pick_zero (g n c : Nat) (A : Option Addr) (p k : Int) (w : World) (h0 : w.cell? ⟨g, 0, none⟩ = some (.slice A n c)) (h1 : w.cell? ⟨g, 1, none⟩ = some (.int .i64 p))
    (hf : w.frozen? ⟨g, 1, none⟩ = false) (hp0 : 0 ≤ p) (hp1 : p ≤ 1000000) (hk : k < 1 ∨ n = 0) :
    Calls Try.prog 41 #[.pointer (some ⟨g, 0, none⟩), .int .i64 k] w fun e w' => e = .returned (.int .i64 0) ∧ w.setCell ⟨g, 1, none⟩ (.int .i64 (p + 1)) = w' := by
  rcases hk with hk | hk
  · go_enter Try.func41, Try.ntmps41
    go_wp2
    go_ret
    exact ⟨rfl, rfl⟩
  · subst hk
    by_cases hk : k < 1
    · go_enter Try.func41, Try.ntmps41
      go_wp2
      go_ret
      exact ⟨rfl, rfl⟩
    · go_enter Try.func41, Try.ntmps41
      go_wp2
      go_ret
      exact ⟨rfl, rfl⟩
theorem pick_in (g n c : Nat) (ad : Addr) (p : Nat) (k z : Int) (w : World) (h0 : w.cell? ⟨g, 0, none⟩ = some (.slice (some ad) n c)) (h1 : w.cell? ⟨g, 1, none⟩ = some (.int .i64 p))
    (hf : w.frozen? ⟨g, 1, none⟩ = false) (hp1 : p ≤ 1000000) (hk : 1 ≤ k) (hn : p < n) (hn2 : n ≤ 2000) (hne : ad.block ≠ g) (hz : w.cell? (ad.add p) = some (.int .u8 z)) (hz0 : 0 ≤ z) (hz1 : z ≤ 255) :
    Calls Try.prog 41 #[.pointer (some ⟨g, 0, none⟩), .int .i64 k] w fun e w' => e = .returned (.int .i64 (z % k)) ∧ w.setCell ⟨g, 1, none⟩ (.int .i64 (p + 1)) = w' := by
  have e0 : ((n : Int) == 0) = false := by simp; omega
  have hz' : ∀ v, (w.setCell ⟨g, 1, none⟩ v).cell? (ad.add p) = some (.int .u8 z) := fun v => (cell_far (by rw [add_block]; exact hne) v).trans hz
  go_enter Try.func41, Try.ntmps41
  go_wp2
  go_ret
  exact ⟨rfl, rfl⟩
theorem bits_xor_i64_nat (a b : Nat) (ha : a < 9223372036854775808) (hb : b < 9223372036854775808) :
    bits .xor .i64 (a : Int) (b : Int) = ((a ^^^ b : Nat) : Int) := by
  have hx : a ^^^ b < 2 ^ 63 := Nat.xor_lt_two_pow (by omega) (by omega)
  have h1 : (BitVec.ofInt 64 (a : Int)).toNat = a := by
    rw [BitVec.ofInt_natCast, BitVec.toNat_ofNat]; exact Nat.mod_eq_of_lt (by omega)
  have h2 : (BitVec.ofInt 64 (b : Int)).toNat = b := by
    rw [BitVec.ofInt_natCast, BitVec.toNat_ofNat]; exact Nat.mod_eq_of_lt (by omega)
  show IntKind.i64.wrap ((BitVec.ofInt 64 (a : Int) ^^^ BitVec.ofInt 64 (b : Int)).toNat : Int) = _
  rw [BitVec.toNat_xor, h1, h2, IntWalk.i64_left, IntWalk.wrap64_in _ (by omega)]
theorem mix_nat (X : Nat) (k : Int) (hX : X < 4611686018427387904) (hk : 1 ≤ k) :
    0 ≤ (bits .xor .i64 (wrap64 X) (wrap64 ((wrap64 X).tdiv 64))).tmod k ∧ (bits .xor .i64 (wrap64 X) (wrap64 ((wrap64 X).tdiv 64))).tmod k < k := by
  rw [IntWalk.wrap64_in (X : Int) (by omega)]
  have e : (X : Int).tdiv 64 = ((X / 64 : Nat) : Int) := by rw [Int.tdiv_eq_ediv_of_nonneg (by omega)]; simp
  rw [e, IntWalk.wrap64_in _ (by omega), bits_xor_i64_nat _ _ (by omega) (by omega), Int.tmod_eq_emod_of_nonneg (by omega)]
  exact ⟨Int.emod_nonneg _ (by omega), Int.emod_lt_of_pos _ (by omega)⟩
theorem mix_in (z1 z2 : Int) (p n : Nat) (k : Int) (hk : 1 ≤ k) (b1 : 0 ≤ z1) (c1 : z1 ≤ 255) (b2 : 0 ≤ z2) (c2 : z2 ≤ 255) (hp : p ≤ 1000000) (hn : 0 < n) :
    0 ≤ (bits .xor .i64 (wrap64 (z1 * 131 + z2 * 1117 + p * 29 + wrap64 (wrap64 ((p : Int) / n) * 53))) (wrap64 ((wrap64 (z1 * 131 + z2 * 1117 + p * 29 + wrap64 (wrap64 ((p : Int) / n) * 53))).tdiv 64))).tmod k ∧
    (bits .xor .i64 (wrap64 (z1 * 131 + z2 * 1117 + p * 29 + wrap64 (wrap64 ((p : Int) / n) * 53))) (wrap64 ((wrap64 (z1 * 131 + z2 * 1117 + p * 29 + wrap64 (wrap64 ((p : Int) / n) * 53))).tdiv 64))).tmod k < k := by
  have e2 : p / n ≤ p := Nat.div_le_self p n
  obtain ⟨q, hq⟩ : ∃ q, p / n = q := ⟨_, rfl⟩
  have e1 : (p : Int) / n = (q : Int) := by rw [← hq]; exact (Int.natCast_ediv p n).symm
  rw [hq] at e2
  rw [e1, IntWalk.wrap64_in (q : Int) (by omega), IntWalk.wrap64_in ((q : Int) * 53) (by omega)]
  obtain ⟨X, hX⟩ : ∃ X : Nat, z1 * 131 + z2 * 1117 + (p : Int) * 29 + (q : Int) * 53 = X := ⟨(z1 * 131 + z2 * 1117 + (p : Int) * 29 + (q : Int) * 53).toNat, by omega⟩
  rw [hX]
  exact mix_nat X k (by omega) hk
theorem pick_past (g n c : Nat) (ad : Addr) (p : Nat) (k : Int) (w : World) (h0 : w.cell? ⟨g, 0, none⟩ = some (.slice (some ad) n c)) (h1 : w.cell? ⟨g, 1, none⟩ = some (.int .i64 p))
    (hf : w.frozen? ⟨g, 1, none⟩ = false) (hp1 : p ≤ 1000000) (hk : 1 ≤ k) (h0n : 0 < n) (hn : n ≤ p) (hn2 : n ≤ 2000) (hne : ad.block ≠ g)
    (hz : ∀ i, i < n → ∃ z : Int, w.cell? (ad.add i) = some (.int .u8 z) ∧ 0 ≤ z ∧ z ≤ 255) :
    Calls Try.prog 41 #[.pointer (some ⟨g, 0, none⟩), .int .i64 k] w fun e w' => SomeInt (fun v => 0 ≤ v ∧ v < k) (w.setCell ⟨g, 1, none⟩ (.int .i64 (p + 1))) e w' := by
  have e0 : ((n : Int) == 0) = false := by simp; omega
  obtain ⟨z1, a1, b1, c1⟩ := hz (p % n) (Nat.mod_lt _ h0n)
  obtain ⟨z2, a2, b2, c2⟩ := hz ((p * 7 + 3) % n) (Nat.mod_lt _ h0n)
  have f1 : ∀ v, (w.setCell ⟨g, 1, none⟩ v).cell? (ad.add (p % n)) = some (.int .u8 z1) := fun v => (cell_far (by rw [add_block]; exact hne) v).trans a1
  have f2 : ∀ v, (w.setCell ⟨g, 1, none⟩ v).cell? (ad.add ((p * 7 + 3) % n)) = some (.int .u8 z2) := fun v => (cell_far (by rw [add_block]; exact hne) v).trans a2
  clear hz a1 a2
  have g1 : 0 ≤ (p : Int) % n := by omega
  have g2 : (p : Int) % n < n := Int.emod_lt_of_pos _ (by omega)
  have g3 : 0 ≤ ((p : Int) * 7 + 3) % n := Int.emod_nonneg _ (by omega)
  have g4 : ((p : Int) * 7 + 3) % n < n := Int.emod_lt_of_pos _ (by omega)
  have t1 : ((p : Int) % n).toNat = p % n := by exact Int.toNat_natCast (p % n)
  have t2 : (((p : Int) * 7 + 3) % n).toNat = (p * 7 + 3) % n := by
    have : ((p : Int) * 7 + 3) = ((p * 7 + 3 : Nat) : Int) := by simp
    rw [this]; exact Int.toNat_natCast ((p * 7 + 3) % n)
  go_enter Try.func41, Try.ntmps41
  go_wp2
  go_quiet (fail)
  go_wp2
  go_ret
  refine ⟨_, _, ?_, rfl, rfl⟩
  exact mix_in z1 z2 p n k hk b1 c1 b2 c2 hp1 h0n
/-- a reader in block g, at most m bytes on, over a code below W's own blocks; all old memory as in W -/
structure Rd (W w : World) (g m : Nat) : Prop where
  bel : Below W.heap.size W w
  lo : W.heap.size ≤ g
  hd : ∃ (A : Option Addr) (n c p : Nat), w.heap[g]? = some (.cells #[.slice A n c, .int .i64 p] 62 (0, 0)) ∧ p ≤ m ∧ Code8 W W.heap.size A n
theorem Rd.lt {W w : World} {g m : Nat} (h : Rd W w g m) : g < w.heap.size := by
  obtain ⟨A, n, c, p, hh, _⟩ := h.hd
  rcases Nat.lt_or_ge g w.heap.size with hlt | hge
  · exact hlt
  · rw [Array.getElem?_eq_none hge] at hh; cases hh
theorem Rd.more {W w : World} {g m m' : Nat} (h : Rd W w g m) (hm : m ≤ m') : Rd W w g m' := by
  obtain ⟨A, n, c, p, hh, hp, hc⟩ := h.hd
  exact ⟨h.bel, h.lo, A, n, c, p, hh, by omega, hc⟩
theorem Rd.alloc {W w : World} {g m : Nat} (h : Rd W w g m) (o : Obj) : Rd W (w.alloc o) g m := by
  obtain ⟨A, n, c, p, hh, hp, hc⟩ := h.hd
  exact ⟨h.bel.alloc h.bel.size o, h.lo, A, n, c, p, (Below.heap_alloc w o g h.lt).trans hh, hp, hc⟩
theorem Rd.drew {W w : World} {g m : Nat} (h : Rd W w g m) : Rd W w.drew g m := ⟨h.bel.drew, h.lo, h.hd⟩
theorem Rd.drewN {W w : World} {g m : Nat} (h : Rd W w g m) (n : Nat) : Rd W (w.drewN n) g m :=
  ⟨⟨h.bel.os, h.bel.tape, h.bel.output, h.bel.size, h.bel.block⟩, h.lo, h.hd⟩
/-- only block g, and what is new, has turned: a store elsewhere keeps the reader -/
theorem Rd.grown {W w w' : World} {g m : Nat} {row : Option Nat} (h : Rd W w g m) (hg : w.grownBy w' row) (hne : some g ≠ row) (hr : ∀ k, row = some k → W.heap.size ≤ k) : Rd W w' g m := by
  obtain ⟨A, n, c, p, hh, hp, hc⟩ := h.hd
  exact ⟨h.bel.grown hg h.bel.size hr, h.lo, A, n, c, p, (hg.block g h.lt hne).trans hh, hp, hc⟩
theorem Rd.step {W w : World} {g m : Nat} {A : Option Addr} {n c p : Nat} (h : Rd W w g m) (hh : w.heap[g]? = some (.cells #[.slice A n c, .int .i64 p] 62 (0, 0))) (hp : p ≤ m) (hc : Code8 W W.heap.size A n) (q : Nat) :
    Rd W ((w.setCell ⟨g, 1, none⟩ (.int .i64 (p + 1))).drewN q) g (m + 1) := by
  refine Rd.drewN ⟨h.bel.setCell h.lo _, h.lo, A, n, c, p + 1, ?_, by omega, hc⟩ q
  simp [World.setCell, Array.getElem?_modify, hh]
def Picked (W w : World) (g m : Nat) (k : Int) (e : Ending) (w' : World) : Prop :=
  ∃ v : Int, 0 ≤ v ∧ (1 ≤ k → v < k) ∧ (k < 1 → v = 0) ∧ e = .returned (.int .i64 v) ∧ Rd W w' g (m + 1) ∧ w.grownBy w' (some g)
theorem pick_any (W w : World) (g m : Nat) (k : Int) (h : Rd W w g m) (hm : m ≤ 1000000) :
    Calls Try.prog 41 #[.pointer (some ⟨g, 0, none⟩), .int .i64 k] w (Picked W w g m k) := by
  obtain ⟨A, n, c, p, hh, hp, hc⟩ := h.hd
  obtain ⟨c0, c1, cf⟩ := cell_of_two hh
  by_cases hz : k < 1 ∨ n = 0
  · refine (pick_zero g n c A p k w c0 c1 cf (by omega) (by omega) hz).mono ?_
    rintro e w' ⟨rfl, rfl⟩
    exact ⟨0, by omega, by omega, fun _ => rfl, rfl, h.step hh hp hc 0, only_setCell' w g 1 _⟩
  · obtain ⟨hn2, hrow⟩ := hc
    obtain ⟨ad, rfl, hb, hcell⟩ := hrow (by omega)
    have hlo := h.lo
    have hcell' : ∀ i, i < n → ∃ z : Int, w.cell? (ad.add i) = some (.int .u8 z) ∧ 0 ≤ z ∧ z ≤ 255 := by
      intro i hi
      obtain ⟨z, a, b, d⟩ := hcell i hi
      exact ⟨z, (h.bel.cell (p := ad.add i) (by rw [add_block]; exact hb)).trans a, b, d⟩
    by_cases hlt : p < n
    · obtain ⟨z, a, b, d⟩ := hcell' p hlt
      refine (pick_in g n c ad p k z w c0 c1 cf (by omega) (by omega) hlt hn2 (by omega) a b d).mono ?_
      rintro e w' ⟨rfl, rfl⟩
      exact ⟨z % k, Int.emod_nonneg _ (by omega), fun _ => Int.emod_lt_of_pos _ (by omega), fun hk => by omega, rfl, h.step hh hp ⟨hn2, hrow⟩ 0, only_setCell' w g 1 _⟩
    · refine (pick_past g n c ad p k w c0 c1 cf (by omega) (by omega) (by omega) (by omega) hn2 (by omega) hcell').mono ?_
      rintro e w' ⟨v, q, ⟨hv0, hv1⟩, rfl, rfl⟩
      exact ⟨v, hv0, fun _ => hv1, fun hk => by omega, rfl, h.step hh hp ⟨hn2, hrow⟩ q, only_drewN (only_setCell' w g 1 _) q⟩
def OddOf (W w : World) (g m : Nat) (e : Ending) (w' : World) : Prop :=
  ∃ b : Bool, e = .returned (.bool b) ∧ Rd W w' g (m + 1) ∧ w.grownBy w' (some g)
theorem odd_any (W w : World) (g m : Nat) (k : Int) (h : Rd W w g m) (hm : m ≤ 1000000) (hk : -1000000 ≤ k) (hk2 : k ≤ 1000000) :
    Calls Try.prog 42 #[.pointer (some ⟨g, 0, none⟩), .int .i64 k] w (OddOf W w g m) := by
  by_cases hz : 0 < k
  · go_enter Try.func42, Try.ntmps42
    go_wp2_with (go_at_call 41; refine (pick_any W w g m k h hm).mono ?_; rintro e w' ⟨v, hv0, hv1, hv2, rfl, hr, hg⟩)
    go_ret
    exact ⟨_, rfl, hr, hg⟩
  · go_enter Try.func42, Try.ntmps42
    go_wp2
    go_ret
    exact ⟨_, rfl, h.more (by omega), grown_refl _ _⟩
def CodeArg (w : World) (A : Option Addr) (n c : Nat) : Prop :=
  n ≤ c ∧ c ≤ maxLen ∧ (0 < n → ∃ ad, A = some ad ∧ ad.block < w.heap.size ∧ ∀ i, i < n → ∃ z : Int, w.cell? (ad.add i) = some (.int .u8 z) ∧ 0 ≤ z ∧ z ≤ 255)
theorem codeArg_of {w : World} {A : Option Addr} {n c : Nat} {zs : List Int}
    (h : (A = none ∧ n = 0 ∧ c = 0 ∧ zs = []) ∨ ∃ x, A = some x ∧ n ≤ c ∧ c ≤ maxLen ∧ zs.length = c ∧ (∀ i, i < zs.length → w.cell? (x.add i) = some (.int .u8 (zs.getD i 0))) ∧ ∀ n ∈ zs, (Lit.int .u8 n).wf = true) : CodeArg w A n c := by
  rcases h with ⟨rfl, rfl, rfl, rfl⟩ | ⟨x, rfl, h1, h2, h3, h4, h5⟩
  · exact ⟨Nat.le_refl _, by simp, fun h => by omega⟩
  · refine ⟨h1, h2, fun hn => ⟨x, rfl, ?_, fun i hi => ⟨zs.getD i 0, h4 i (by omega), ?_⟩⟩⟩
    · have hc := h4 0 (by omega)
      have := block_lt_of_cell hc
      rw [add_block] at this; exact this
    · have hm : zs.getD i 0 ∈ zs := by rw [List.getD_eq_getElem?_getD, List.getElem?_eq_getElem (by omega)]; exact List.getElem_mem _
      have := h5 _ hm
      simpa [Lit.wf, IntKind.min, IntKind.max, IntKind.signed, IntKind.bits] using this
def Opened (w : World) (e : Ending) (w' : World) : Prop :=
  e = .returned (.pointer (some ⟨w.heap.size, 0, none⟩)) ∧ Rd w w' w.heap.size 0
theorem rd_new (w : World) (A : Option Addr) (n c : Nat) (hc : Code8 w w.heap.size A n) : Rd w (w.alloc (.cells #[.slice A n c, .int .i64 0] 62)) w.heap.size 0 :=
  ⟨(Below.refl _ _).alloc (Nat.le_refl _) _, Nat.le_refl _, A, n, c, 0, heap_alloc_new w _, Nat.le_refl _, hc⟩
theorem open_any (w : World) (A : Option Addr) (n c : Nat) (h : CodeArg w A n c) :
    Calls Try.prog 25 #[.slice A n c] w (Opened w) := by
  obtain ⟨h1, h2, h3⟩ := h
  unfold maxLen at h2
  by_cases hn : 2000 < n
  · obtain ⟨ad, rfl, hb, hc⟩ := h3 (by omega)
    have hrd := Lib.hid (rd_new w (some ad) 2000 c ⟨by omega, fun _ => ⟨ad, rfl, hb, fun i hi => hc i (by omega)⟩⟩)
    clear h3
    go_enter Try.func25, Try.ntmps25
    go_wp2
    go_ret
    exact ⟨rfl, hrd.out⟩
  · have hrd := Lib.hid (rd_new w A n c ⟨by omega, h3⟩)
    go_enter Try.func25, Try.ntmps25
    go_wp2
    go_ret
    exact ⟨rfl, hrd.out⟩
def DrewStr (W w : World) (g m B : Nat) (e : Ending) (w' : World) : Prop := ∃ s : ByteArray, s.size ≤ B ∧ e = .returned (.string s) ∧ Rd W w' g m ∧ w.grownBy w' (some g)
def DrawnStr (w : World) (B : Nat) (e : Ending) (w' : World) : Prop := ∃ s : ByteArray, s.size ≤ B ∧ e = .returned (.string s) ∧ Below w.heap.size w w'
def DrawnInt (w : World) (e : Ending) (w' : World) : Prop := ∃ v : Int, e = .returned (.int .i64 v) ∧ Below w.heap.size w w'
def ShortStr (B : Nat) (w : World) (e : Ending) (w' : World) : Prop := ∃ s : ByteArray, s.size ≤ B ∧ e = .returned (.string s) ∧ w = w'
theorem below_trans0 {a b c : World} (h : Below a.heap.size a b) (k : Below b.heap.size b c) : Below a.heap.size a c := h.trans (k.mono h.size)
/-- the digits of a number ahead of a text -/
def mlF : Nat → Nat → List UInt8 → List UInt8
  | 0, _, acc => acc
  | f + 1, n, acc => if n = 0 then acc else mlF f (n / 10) (UInt8.ofNat (48 + n % 10) :: acc)
theorem mlF_zero (f : Nat) (acc : List UInt8) : mlF f 0 acc = acc := by cases f <;> simp [mlF]
theorem mlF_more : ∀ (f f' n : Nat) (acc : List UInt8), n ≤ f → n ≤ f' → mlF f n acc = mlF f' n acc := by
  intro f
  induction f with
  | zero =>
    intro f' n acc h _
    have e : n = 0 := by omega
    rw [e, mlF_zero, mlF_zero]
  | succ f ih =>
    intro f' n acc h h'
    by_cases hn : n = 0
    · subst hn; rw [mlF_zero, mlF_zero]
    · cases f' with
      | zero => omega
      | succ f' =>
        simp only [mlF, hn, if_false]
        exact ih f' (n / 10) _ (by omega) (by omega)
/-- what markText answers -/
def mlT (k : Nat) : ByteArray := if k = 0 then ⟨#[109, 48]⟩ else bs (109 :: mlF k k [])
theorem mlF_step {n : Nat} (h : n ≠ 0) (acc : List UInt8) : mlF n n acc = mlF (n / 10) (n / 10) (UInt8.ofNat (48 + n % 10) :: acc) := by
  cases n with
  | zero => exact absurd rfl h
  | succ m =>
    have e : mlF (m + 1) (m + 1) acc = mlF m ((m + 1) / 10) (UInt8.ofNat (48 + (m + 1) % 10) :: acc) := by simp [mlF]
    rw [e]
    exact mlF_more m ((m + 1) / 10) ((m + 1) / 10) _ (by omega) (Nat.le_refl _)
theorem dig_u8 (n : Nat) : (UInt8.ofNat (48 + n % 10)).toNat = 48 + n % 10 := by
  rw [UInt8.toNat_ofNat']; omega
theorem make4 (w : World) : (Instr.makeSlice 22 (.int .i64 4) (.int .i64 4)).run Try.prog w = .ok (.slice (some ⟨w.heap.size, 0, none⟩) 4 4) (w.alloc (.cells #[.int .u8 0, .int .u8 0, .int .u8 0, .int .u8 0] 5)) := by kernel_rfl
theorem make2 (w : World) : (Instr.makeSlice 22 (.int .i64 2) (.int .i64 2)).run Try.prog w = .ok (.slice (some ⟨w.heap.size, 0, none⟩) 2 2) (w.alloc (.cells #[.int .u8 0, .int .u8 0] 5)) := by kernel_rfl
theorem dgW {n : Int} (a : 0 ≤ n) (b : n ≤ 9) : IntKind.u8.wrap (48 + n) = ((dg n).toNat : Int) := by
  rw [dg_toNat a b]; simp [IntKind.wrap, IntKind.signed, IntKind.bits]; omega
theorem conv2 (w : World) (a b : UInt8) : (convert 22 9 (.slice (some ⟨w.heap.size, 0, none⟩) 2 2)).run Try.prog (w.alloc (.cells #[.int .u8 a.toNat, .int .u8 b.toNat] 5)) = .ok (.string (bs [a, b])) (w.alloc (.cells #[.int .u8 a.toNat, .int .u8 b.toNat] 5)) :=
  back_of _ _ [a, b] 2 rfl 2 (by
    intro j hj
    rw [World.cell?_alloc_new w _ _ j]
    match j, hj with
    | 0, _ => rfl
    | 1, _ => rfl)
theorem conv4 (w : World) (a b c d : UInt8) : (convert 22 9 (.slice (some ⟨w.heap.size, 0, none⟩) 4 4)).run Try.prog (w.alloc (.cells #[.int .u8 a.toNat, .int .u8 b.toNat, .int .u8 c.toNat, .int .u8 d.toNat] 5)) = .ok (.string (bs [a, b, c, d])) (w.alloc (.cells #[.int .u8 a.toNat, .int .u8 b.toNat, .int .u8 c.toNat, .int .u8 d.toNat] 5)) :=
  back_of _ _ [a, b, c, d] 4 rfl 4 (by
    intro j hj
    rw [World.cell?_alloc_new w _ _ j]
    match j, hj with
    | 0, _ => rfl
    | 1, _ => rfl
    | 2, _ => rfl
    | 3, _ => rfl)
theorem below_ext {B : Nat} {a b : World} (h : Below B a b) (hB : B ≤ a.heap.size) : B ≤ b.heap.size := Nat.le_trans hB h.size
/-- a size that is left, and memory that grew -/
def GotSz (P : Prop) (left : Int) (w : World) (e : Ending) (w' : World) : Prop := ∃ r : Int, e = .returned (.int .i64 r) ∧ r ≤ left ∧ (0 ≤ r → P) ∧ Below w.heap.size w w'
theorem take_mem {α : Type} {p : α → Prop} {L : List α} {k : Nat} (hk : k < L.length) (h : ∀ e ∈ L.take k, p e) (h' : p L[k]) : ∀ e ∈ L.take (k + 1), p e := by
  intro e m
  rw [List.take_succ_eq_append_getElem hk] at m
  rcases List.mem_append.1 m with m | m
  · exact h e m
  · have : e = L[k] := by simpa using m
    rw [this]; exact h'
theorem flat_rep {α : Type} {enc : α → List Value} (y : α) (n : Nat) : (List.replicate n y).flatMap enc = (List.replicate n (enc y)).flatten := by
  induction n with
  | zero => rfl
  | succ n ih => rw [List.replicate_succ, List.flatMap_cons, ih, List.replicate_succ, List.flatten_cons]
theorem made_two (a b : Value) (n : Nat) : (madeCells #[a, b] (n * 2)).toList = (List.replicate n [a, b]).flatten := by
  induction n with
  | zero => simp [madeCells]
  | succ n ih =>
    rw [List.replicate_succ', List.flatten_append, ← ih]
    unfold madeCells
    rw [Nat.succ_mul, Array.range_succ, Array.range_succ]
    simp
theorem keepQ {W w2 w3 : World} {b b' i i' j j' : Nat} {x y z t : Value} (hb : b < W.heap.size) (hb' : b' < W.heap.size) (h : Below w2.heap.size w2 w3) (h0 : w2.cell? ⟨b, i, none⟩ = some x) (h1 : w2.cell? ⟨b, j, none⟩ = some y) (h2 : w2.cell? ⟨b', i', none⟩ = some z) (h3 : w2.cell? ⟨b', j', none⟩ = some t) (h4 : Hid (Below W.heap.size W w2)) :
    w3.cell? ⟨b, i, none⟩ = some x ∧ w3.cell? ⟨b, j, none⟩ = some y ∧ w3.cell? ⟨b', i', none⟩ = some z ∧ w3.cell? ⟨b', j', none⟩ = some t ∧ Hid (Below W.heap.size W w3) := by
  have hs := h4.out.size
  have q : ∀ (g k : Nat) (u : Value), g < W.heap.size → w2.cell? ⟨g, k, none⟩ = some u → w3.cell? ⟨g, k, none⟩ = some u := fun g k u hg e => by rw [h.cell (p := ⟨g, k, none⟩) (Nat.lt_of_lt_of_le hg hs)]; exact e
  exact ⟨q _ _ _ hb h0, q _ _ _ hb h1, q _ _ _ hb' h2, q _ _ _ hb' h3, Lib.hid (below_trans' h4.out h)⟩
theorem keep2 {W w2 w3 : World} {b i j : Nat} {x y : Value} (hb : b < W.heap.size) (h : Below w2.heap.size w2 w3) (h0 : w2.cell? ⟨b, i, none⟩ = some x) (h1 : w2.cell? ⟨b, j, none⟩ = some y) (h4 : Hid (Below W.heap.size W w2)) :
    w3.cell? ⟨b, i, none⟩ = some x ∧ w3.cell? ⟨b, j, none⟩ = some y ∧ Hid (Below W.heap.size W w3) := by
  have hs := h4.out.size
  have q : ∀ (g k : Nat) (u : Value), g < W.heap.size → w2.cell? ⟨g, k, none⟩ = some u → w3.cell? ⟨g, k, none⟩ = some u := fun g k u hg e => by rw [h.cell (p := ⟨g, k, none⟩) (Nat.lt_of_lt_of_le hg hs)]; exact e
  exact ⟨q _ _ _ hb h0, q _ _ _ hb h1, Lib.hid (below_trans' h4.out h)⟩
theorem rdG_drop {α : Type} {enc : α → List Value} {size : Nat} (he : ∀ x, (enc x).length = size) {w : World} {b o c : Nat} {L : List α} (h : RdG enc w (.slice (some ⟨b, o, none⟩) L.length c) L) (hn : L ≠ []) (k : Nat) (hk : k < L.length) (q n' c' : Nat) (hq : q = o + k * size) (hn' : n' = L.length - k) (hc : n' ≤ c') (hc' : c' ≤ c) :
    RdG enc w (.slice (some ⟨b, q, none⟩) n' c') (L.drop k) := by
  subst hq
  obtain ⟨b', o', c2, hv, h1, h2, hb, h4⟩ := h.some hn
  obtain ⟨⟨rfl, rfl⟩, rfl⟩ : (b = b' ∧ o = o') ∧ c = c2 := by simpa using hv
  refine ⟨some ⟨b, o + k * size, none⟩, c', by rw [List.length_drop, hn'], by rw [List.length_drop]; omega, by omega, .inr ⟨b, o + k * size, rfl, hb, fun j u hj => ?_⟩⟩
  have e : (L.drop k).flatMap enc = (L.flatMap enc).drop (k * size) := by
    have h3 : L.flatMap enc = (L.take k).flatMap enc ++ (L.drop k).flatMap enc := by rw [← List.flatMap_append, List.take_append_drop]
    have h5 : ((L.take k).flatMap enc).length = k * size := by rw [flat_len he, List.length_take, Nat.min_eq_left (by omega)]
    rw [h3, ← h5, List.drop_left]
  rw [e, List.getElem?_drop] at hj
  have := h4 (k * size + j) u hj
  rw [← Nat.add_assoc] at this; exact this
/-- the list's own block lies behind the reader's: an append keeps the reader -/
theorem rd_appG {α : Type} {ty : TypeId} {size : Nat} {enc : α → List Value} {W w w' : World} {g m : Nat} {v : Value} {L : List α} (hr : Rd W w g m) (hown : OwnG ty size enc w (g + 1) v L) (hg : w.grownBy w' v.ownBlock) : Rd W w' g m :=
  hr.grown hg (fun e => by have := OwnG.ge hown g e.symm; omega) (fun k hk => by have := OwnG.ge hown k hk; have := hr.lo; omega)
end Go.Proofs.Ythniiknhbhoncaa
