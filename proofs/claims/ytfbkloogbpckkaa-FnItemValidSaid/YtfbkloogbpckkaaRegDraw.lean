/-
  The verifier's own text: RegDraw.
-/
import Derived.Test.YtfbkloogbpckkaaRows
import Derived.Test.YtfbkloogbpckkaaRegInv
import Derived.Test.YtfbkloogbpckkaaGb
import Derived.WalkKit
import Derived.ProofKit
import Derived.Below
import Derived.Lib.Hide
import Derived.Outline
import Derived.BigQuiet
import Derived.Deep.QuietTactic
import Derived.Deep.Draws
import Derived.Laws.OwnMore
import Derived.Laws.Rows
import Derived.WalkSpells
import Derived.Deep.RegionWith
namespace Go.Proofs.Ytfbkloogbpckkaa
open Go.RowKit
set_option linter.unusedVariables false
/-! Regions of the draws: facts on what each operation yielded, kept while only the reader's block and new blocks turn. -/
def setX (x : Nat → Value) (i : Nat) (v : Value) : Nat → Value := fun j => if j = i then v else x j
/-- what calls cost, of those that were made -/
def costF (l : List (Nat × Nat)) (f : Nat → Bool) : Nat := (l.map fun p => if f p.1 then p.2 else 0).sum
theorem cost_mono (l : List (Nat × Nat)) (f : Nat → Bool) (i : Nat) : costF l f ≤ costF l (upd f i) := by
  induction l with
  | nil => simp [costF]
  | cons p l ih =>
    simp only [costF, List.map_cons, List.sum_cons] at ih ⊢
    have : (if f p.1 = true then p.2 else 0) ≤ if upd f i p.1 = true then p.2 else 0 := by
      unfold upd
      by_cases e : p.1 = i
      · simp only [e, if_true]; split <;> omega
      · simp only [e, if_false]; exact Nat.le_refl _
    omega
theorem cost_new {l : List (Nat × Nat)} {f : Nat → Bool} {i c : Nat} (h : (i, c) ∈ l) (hf : f i = false) : costF l f + c ≤ costF l (upd f i) := by
  induction l with
  | nil => simp at h
  | cons p l ih =>
    have hm := cost_mono l f i
    simp only [costF, List.map_cons, List.sum_cons] at ih hm ⊢
    rcases List.mem_cons.1 h with rfl | h
    · simp only [hf, upd_self, if_true]; simp; omega
    · have := ih h
      have : (if f p.1 = true then p.2 else 0) ≤ if upd f i p.1 = true then p.2 else 0 := by
        unfold upd
        by_cases e : p.1 = i
        · simp only [e, if_true]; split <;> omega
        · simp only [e, if_false]; exact Nat.le_refl _
      omega
def costAll (l : List (Nat × Nat)) : Nat := (l.map fun p => p.2).sum
theorem cost_all (l : List (Nat × Nat)) (f : Nat → Bool) : costF l f ≤ costAll l := by
  induction l with
  | nil => simp [costF, costAll]
  | cons p l ih => simp only [costF, costAll, List.map_cons, List.sum_cons] at ih ⊢; split <;> omega
/-- the world of such a region: the reader is where the calls that were made brought it -/
structure DrawG (W W1 : World) (g m : Nat) (l : List (Nat × Nat)) (f : Nat → Bool) (w : World) : Prop where
  rd : ∃ q, Rd W w g q ∧ q ≤ m + costF l f
  gr : W1.grownBy w (some g)
theorem DrawG.lt {W W1 : World} {g m : Nat} {l : List (Nat × Nat)} {f : Nat → Bool} {w : World} (h : DrawG W W1 g m l f w) : g < w.heap.size := by
  obtain ⟨q, hq, _⟩ := h.rd; exact hq.lt
theorem DrawG.step {W W1 : World} {g m : Nat} {l : List (Nat × Nat)} {f : Nat → Bool} {w : World} (h : DrawG W W1 g m l f w) (i : Nat) : DrawG W W1 g m l (upd f i) w := by
  obtain ⟨q, hq, hm⟩ := h.rd
  exact ⟨⟨q, hq, Nat.le_trans hm (Nat.add_le_add_left (cost_mono l f i) m)⟩, h.gr⟩
theorem DrawG.alloc {W W1 : World} {g m : Nat} {l : List (Nat × Nat)} {f : Nat → Bool} {w : World} (h : DrawG W W1 g m l f w) (o : Obj) (i : Nat) : DrawG W W1 g m l (upd f i) (w.alloc o) := by
  obtain ⟨q, hq, hm⟩ := h.rd
  exact ⟨⟨q, hq.alloc o, Nat.le_trans hm (Nat.add_le_add_left (cost_mono l f i) m)⟩, grown_trans h.gr (grown_alloc w o _)⟩
theorem DrawG.rd' {W W1 : World} {g m : Nat} {l : List (Nat × Nat)} {f : Nat → Bool} {w : World} (h : DrawG W W1 g m l f w) : Rd W w g (m + costF l f) := by
  obtain ⟨q, hq, hm⟩ := h.rd; exact hq.more hm
theorem DrawG.call {W W1 : World} {g m : Nat} {l : List (Nat × Nat)} {f : Nat → Bool} {w w' : World} (h : DrawG W W1 g m l f w) {i c : Nat} (hi : (i, c) ∈ l) (hf : f i = false) (hr : Rd W w' g (m + costF l f + c)) (hg : w.grownBy w' (some g)) : DrawG W W1 g m l (upd f i) w' :=
  ⟨⟨_, hr, by have := cost_new hi hf; omega⟩, grown_trans h.gr hg⟩
theorem DrawG.store {W W1 : World} {g m : Nat} {l : List (Nat × Nat)} {f : Nat → Bool} {w : World} (h : DrawG W W1 g m l f w) {b : Nat} (hb : W1.heap.size ≤ b) (hg : b ≠ g) (hW : W.heap.size ≤ W1.heap.size) (j : Nat) (u : Value) : DrawG W W1 g m l f (w.setCell ⟨b, j, none⟩ u) := by
  obtain ⟨q, hq, hm⟩ := h.rd
  have hs := only_setCell' w b j u
  refine ⟨⟨q, hq.grown hs (by intro e; injection e; omega) (by intro k hk; injection hk; omega), hm⟩, ?_⟩
  exact ⟨hs.os.trans h.gr.os, hs.tape.trans h.gr.tape, hs.output.trans h.gr.output, Nat.le_trans h.gr.size hs.size, fun k hk hne => (hs.block k (Nat.lt_of_lt_of_le hk h.gr.size) (by intro e; injection e; omega)).trans (h.gr.block k hk hne)⟩
def predOf (ops : Array Oper) (i j : Nat) : Bool := ((ops[i]?).map fun o => o.after.any fun e => Region.binds .any e && e.on == j).getD false
/-- what must lie behind, step by step -/
def back (ops : Array Oper) (n : Nat) : Nat → List Nat → List Nat
  | 0, l => l
  | k + 1, l => back ops n k ((List.range n).filter fun j => l.contains j || l.any fun i => predOf ops i j)
def Closed (ops : Array Oper) (f : Nat → Bool) : Prop := ∀ i j, f i = true → predOf ops i j = true → f j = true
theorem back_true {ops : Array Oper} {n : Nat} {f : Nat → Bool} (hc : Closed ops f) : ∀ (k : Nat) (l : List Nat), (∀ i ∈ l, f i = true) → ∀ i ∈ back ops n k l, f i = true := by
  intro k
  induction k with
  | zero => intro l h; exact h
  | succ k ih =>
    intro l h
    refine ih _ (fun i hi => ?_)
    have := (List.mem_filter.1 hi).2
    simp only [Bool.or_eq_true, List.contains_iff_mem, List.any_eq_true] at this
    rcases this with h1 | ⟨q, hq, hp⟩
    · exact h i h1
    · exact hc q i (h q hq) hp
theorem pred_mem {ops : Array Oper} {i j : Nat} {o : Oper} {f : Nat → Bool} (ho : ops[i]? = some o) (hp : ∀ e ∈ o.after, Region.binds .any e = true → f e.on = true) (h : predOf ops i j = true) : f j = true := by
  unfold predOf at h
  rw [ho] at h
  simp only [Option.map_some, Option.getD_some] at h
  obtain ⟨e, he, h2⟩ := Array.any_eq_true'.1 h
  simp only [Bool.and_eq_true, beq_iff_eq] at h2
  rw [← h2.2]; exact hp e he h2.1
/-- **a region of a draw**: n operations with facts, and a last one -/
theorem draw_region {P : Program} {id n : Nat} {ops : Array Oper} {Qp : Exit → Act → World → Prop} {a : Act} {w : World} (hm : P.follows .mixedOrders = true) (hn : ops.size = n + 1) (W : World) (g m : Nat) (l : List (Nat × Nat)) (Fr : (Nat → Value) → Act) (Q : Nat → Value → World → Prop)
    (Fin : Act → World → Prop)
    (dag : (List.range ops.size).all (fun i => ((ops[i]?).map fun o => o.after.all fun e => decide (e.on < i)).getD true) = true)
    (hall : (List.range n).all (fun j => (back ops n 9 ((List.range n).filter fun j => predOf ops n j)).contains j) = true)
    (x0 : Nat → Value) (ha : a = Fr x0) (hr : Rd W w g m)
    (qmono : ∀ j v w w', j < n → Q j v w → w.grownBy w' (some g) → Q j v w')
    (step : ∀ (i : Nat) (o : Oper) (f : Nat → Bool) (x : Nat → Value) (w1 : World), i < n → ops[i]? = some o → f i = false → (∀ e ∈ o.after, Region.binds .any e = true → f e.on = true) → DrawG W w.drew g m l f w1 → (∀ j, j < n → f j = true → Q j (x j) w1) →
      ∀ K : Act → World → Prop, (∀ v w', Q i v w' → w1.grownBy w' (some g) → DrawG W w.drew g m l (upd f i) w' → K (Fr (setX x i v)) w') → if Region.wanted o (yielded ops (Fr x).tmps) = true then o.wp P (Fr x) w1 K Qp else False)
    (last : ∀ (o : Oper) (f : Nat → Bool) (x : Nat → Value) (w1 : World), ops[n]? = some o → (∀ e ∈ o.after, Region.binds .any e = true → f e.on = true) → DrawG W w.drew g m l f w1 → (∀ j, j < n → f j = true → Q j (x j) w1) →
      ∀ K : Act → World → Prop, (∀ a' w', Fin a' w' → K a' w') → if Region.wanted o (yielded ops (Fr x).tmps) = true then o.wp P (Fr x) w1 K Qp else False)
    (fin : ∀ a w, Fin a w → Qp .normal a w) : (Code.region id ops true).wp P Qp a w := by
  subst ha
  refine region_inv hm (fun f a w1 => Closed ops f ∧ (f n = true → Fin a w1 ∧ ∀ j, j < n → f j = true) ∧ (f n = false → ∃ x, a = Fr x ∧ DrawG W w.drew g m l f w1 ∧ ∀ j, j < n → f j = true → Q j (x j) w1)) dag ?_ ?_ ?_
  · exact ⟨(fun i j h => by cases h), (fun h => by cases h), (fun _ => ⟨x0, rfl, ⟨⟨m, hr.drew, by omega⟩, grown_refl _ _⟩, (fun j _ h => by cases h)⟩)⟩
  · intro i o f a w1 ho hf hp hI
    obtain ⟨hc, h1, h2⟩ := hI
    have hin : i < n + 1 := by rw [← hn]; exact (Array.getElem?_eq_some_iff.1 ho).1
    have hc' : Closed ops (upd f i) := by
      intro k j hk hj
      unfold upd at hk ⊢
      by_cases ej : j = i
      · simp [ej]
      · simp only [ej, if_false]
        by_cases ek : k = i
        · subst ek; exact pred_mem ho hp hj
        · simp only [ek, if_false] at hk; exact hc k j hk hj
    by_cases e : i = n
    · subst e
      obtain ⟨x, rfl, hG, hQ⟩ := h2 hf
      have := last o f x w1 ho hp hG hQ Fin (fun _ _ h => h)
      split at this
      · rename_i hw
        rw [if_pos hw]
        refine Oper.wp_mono (fun a' w' h => ⟨hc', (fun _ => ⟨h, fun j hj => ?_⟩), (fun h2 => by rw [upd_self] at h2; cases h2)⟩) this
        rw [upd_ne (by omega)]
        have h3 := List.all_eq_true.1 hall j (List.mem_range.2 hj)
        refine back_true hc 9 _ (fun k hk => ?_) j (by simpa using h3)
        exact pred_mem ho hp (List.mem_filter.1 hk).2
      · exact this.elim
    · rcases hfn : f n with _ | _
      · obtain ⟨x, rfl, hG, hQ⟩ := h2 hfn
        have := step i o f x w1 (by omega) ho hf hp hG hQ (fun a' w' => ∃ v, a' = Fr (setX x i v) ∧ Q i v w' ∧ w1.grownBy w' (some g) ∧ DrawG W w.drew g m l (upd f i) w') (fun v w' h1 h2 h3 => ⟨v, rfl, h1, h2, h3⟩)
        split at this
        · rename_i hw
          rw [if_pos hw]
          refine Oper.wp_mono (fun a' w' h => ?_) this
          obtain ⟨v, rfl, hq, hg, hG'⟩ := h
          refine ⟨hc', (fun h2 => by rw [upd_ne (Ne.symm e), hfn] at h2; cases h2), fun _ => ⟨_, rfl, hG', fun j hj hfj => ?_⟩⟩
          by_cases e2 : j = i
          · subst e2; simpa [setX] using hq
          · rw [upd_ne e2] at hfj
            simpa [setX, e2] using qmono j _ _ _ hj (hQ j hj hfj) hg
        · exact this.elim
      · exfalso
        have := (h1 hfn).2 i (by omega)
        rw [hf] at this; cases this
  · intro f a w1 hf h
    exact fin a w1 (h.2.1 (hf n (by omega))).1
end Go.Proofs.Ytfbkloogbpckkaa
