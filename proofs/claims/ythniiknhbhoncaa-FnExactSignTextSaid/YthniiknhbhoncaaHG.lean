/-
  The verifier's own text: RegInv2 RegCalm WdMath AyMath TAy AyMore OpenB.
-/
import Derived.Test.YthniiknhbhoncaaRows
import Derived.Test.YthniiknhbhoncaaGn
import Derived.Test.YthniiknhbhoncaaGa
import Derived.Test.YthniiknhbhoncaaHA
import Derived.Test.YthniiknhbhoncaaGb
import Derived.Lib.SmallJoins
import Derived.WalkKit
import Derived.ProofKit
import Derived.Below
import Derived.Lib.Hide
import Derived.Outline
import Derived.BigQuiet
import Derived.Deep.QuietTactic
import Derived.Deep.Draws
import Derived.Laws.OwnMore
import Derived.Laws.Rows
import Derived.WalkSpells
import Derived.Deep.RegionWith
namespace Go.Proofs.Ythniiknhbhoncaa
open Go.RowKit
set_option linter.unusedVariables false
/-! region_inv where edges that do not bind may point ahead (late stores). -/
theorem any_inv2 {P : Program} {md : Region.Mode} {ops : Array Oper} {Q : Exit → Act → World → Prop} (I : (Nat → Bool) → Act → World → Prop)
    (dag : (List.range ops.size).all (fun i => ((ops[i]?).map fun o => o.after.all fun e => !(Region.binds md e) || decide (e.on < i)).getD true) = true)
    (step : ∀ (i : Nat) (o : Oper) (f : Nat → Bool) (a : Act) (w : World), ops[i]? = some o → f i = false → (∀ e ∈ o.after, Region.binds md e = true → f e.on = true) → I f a w → wpOp P ops Q i (fun a' w' => I (upd f i) a' w') a w)
    (fin : ∀ f a w, (∀ i, i < ops.size → f i = true) → I f a w → Q .normal a w) :
    ∀ (fuel : Nat) (listed : Array Bool) (a : Act) (w : World), listed.size = ops.size → unl ops.size listed ≤ fuel → I (listF listed) a w → wpAny P md ops Q fuel listed a w := by
  have hall : ∀ listed : Array Bool, listed.size = ops.size → Region.ready md ops listed = [] → ∀ i, i < ops.size → listF listed i = true := by
    intro listed hsz hr i
    induction i using Nat.strongRecOn with
    | ind i ih =>
      intro hi
      rcases hq : listF listed i with _ | _
      · exfalso
        have hmem : i ∈ Region.ready md ops listed := by
          rw [mem_ready]
          refine ⟨?_, ops[i], Array.getElem?_eq_getElem hi, fun e he hb => ?_⟩
          · unfold listF at hq
            simp only [Array.getD_eq_getD_getElem?] at hq ⊢
            rw [Array.getElem?_eq_getElem (by omega)] at hq ⊢
            exact hq
          · have h1 := List.all_eq_true.1 dag i (List.mem_range.2 hi)
            rw [Array.getElem?_eq_getElem hi] at h1
            simp only [Option.map_some, Option.getD_some] at h1
            have h2 := Array.all_eq_true_iff_forall_mem.1 h1 e he
            have h3 : e.on < i := by rw [hb] at h2; simpa using h2
            exact ih e.on h3 (by omega)
        rw [hr] at hmem; cases hmem
      · rfl
  intro fuel
  induction fuel with
  | zero =>
    intro listed a w hsz hu hI
    have ha : ∀ i, i < ops.size → listF listed i = true := by
      intro i hi
      have h0 : unl ops.size listed = 0 := by omega
      unfold unl at h0
      have := List.countP_eq_zero.1 h0 i (List.mem_range.2 hi)
      simpa using this
    refine ⟨?_, fin _ a w ha hI⟩
    rcases hr : Region.ready md ops listed with _ | ⟨i, r⟩
    · rfl
    · have hm : i ∈ Region.ready md ops listed := by rw [hr]; simp
      rw [mem_ready] at hm
      obtain ⟨h0, o, ho, _⟩ := hm
      have hi : i < ops.size := (Array.getElem?_eq_some_iff.1 ho).1
      have h1 := ha i hi
      unfold listF at h1
      simp only [Array.getD_eq_getD_getElem?] at h0 h1
      rw [Array.getElem?_eq_getElem (by omega)] at h0 h1
      simp only [Option.getD_some] at h0 h1
      rw [h0] at h1; cases h1
  | succ fuel ih =>
    intro listed a w hsz hu hI
    refine ⟨fun hr => fin _ a w (hall listed hsz hr) hI, fun i hi => ?_⟩
    have hm := mem_ready.1 hi
    obtain ⟨h0, o, ho, he⟩ := hm
    have hlt : i < ops.size := (Array.getElem?_eq_some_iff.1 ho).1
    have hfi : listF listed i = false := by
      unfold listF
      simp only [Array.getD_eq_getD_getElem?] at h0 ⊢
      rw [Array.getElem?_eq_getElem (by omega)] at h0 ⊢
      exact h0
    refine wpOp_mono (fun a' w' h => ?_) (step i o (listF listed) a w ho hfi he hI)
    refine ih _ a' w' (by simpa using hsz) ?_ (by rw [listF_set (by omega)]; exact h)
    have : unl ops.size (listed.setIfInBounds i true) < unl ops.size listed := by
      unfold unl
      rw [listF_set (by omega)]
      refine countP_lt (i := i) _ (fun x _ hx => ?_) (List.mem_range.2 hlt) (by simp [hfi]) (by simp [upd])
      unfold upd at hx
      split at hx
      · simp at hx
      · exact hx
    omega
theorem region_inv2 {P : Program} {id : Nat} {ops : Array Oper} {Q : Exit → Act → World → Prop} {a : Act} {w : World} (hm : P.follows .mixedOrders = true) (I : (Nat → Bool) → Act → World → Prop)
    (dag : (List.range ops.size).all (fun i => ((ops[i]?).map fun o => o.after.all fun e => !(Region.binds .any e) || decide (e.on < i)).getD true) = true)
    (start : I (fun _ => false) a w.drew)
    (step : ∀ (i : Nat) (o : Oper) (f : Nat → Bool) (a : Act) (w : World), ops[i]? = some o → f i = false → (∀ e ∈ o.after, Region.binds .any e = true → f e.on = true) → I f a w → if Region.wanted o (yielded ops a.tmps) = true then o.wp P a w (fun a' w' => I (upd f i) a' w') Q else I (upd f i) (a.put o.dst undef) w)
    (fin : ∀ f a w, (∀ i, i < ops.size → f i = true) → I f a w → Q .normal a w) : (Code.region id ops true).wp P Q a w := by
  refine wp_region_any hm (any_inv2 I dag (fun i o f a w ho hf he hI => ?_) fin ops.size _ a _ (by simp) ?_ ?_)
  · have := step i o f a w ho hf he hI
    unfold wpOp
    simp only [ho]
    split
    · rename_i hw; rw [if_pos hw] at this; exact .inl this
    · rename_i hw; rw [if_neg hw] at this; exact this
  · unfold unl
    have := List.countP_le_length (p := fun i => !listF (Array.replicate ops.size false) i) (l := List.range ops.size)
    simpa using this
  · have e : listF (Array.replicate ops.size false) = fun _ => false := by
      funext j; unfold listF
      by_cases hj : j < ops.size <;> simp [hj]
    rw [e]; exact start
/-! A region that draws its order and makes new memory only: facts on what each operation yielded, each operation looked at once. -/
theorem calm_region {P : Program} {id n : Nat} {ops : Array Oper} {Qp : Exit → Act → World → Prop} {a : Act} {w : World} (hm : P.follows .mixedOrders = true) (hn : ops.size = n) (Fr : (Nat → Value) → Act) (Q : Nat → Value → World → Prop)
    (dag : (List.range ops.size).all (fun i => ((ops[i]?).map fun o => o.after.all fun e => decide (e.on < i)).getD true) = true)
    (x0 : Nat → Value) (ha : a = Fr x0)
    (qmono : ∀ j v w w', j < n → Q j v w → Below w.heap.size w w' → Q j v w')
    (step : ∀ (i : Nat) (o : Oper) (f : Nat → Bool) (x : Nat → Value) (w1 : World), i < n → ops[i]? = some o → f i = false → (∀ e ∈ o.after, Region.binds .any e = true → f e.on = true) → Below w.heap.size w w1 → (∀ j, j < n → f j = true → Q j (x j) w1) →
      ∀ K : Act → World → Prop, (∀ v w', Q i v w' → Below w1.heap.size w1 w' → K (Fr (setX x i v)) w') → if Region.wanted o (yielded ops (Fr x).tmps) = true then o.wp P (Fr x) w1 K Qp else False)
    (fin : ∀ x w1, Below w.heap.size w w1 → (∀ j, j < n → Q j (x j) w1) → Qp .normal (Fr x) w1) : (Code.region id ops true).wp P Qp a w := by
  subst ha
  refine region_inv hm (fun f a w1 => ∃ x, a = Fr x ∧ Below w.heap.size w w1 ∧ ∀ j, j < n → f j = true → Q j (x j) w1) dag ?_ ?_ ?_
  · exact ⟨x0, rfl, Below.drew (Below.refl _ _), (fun j _ h => by cases h)⟩
  · intro i o f a w1 ho hf hp hI
    have hin : i < n := by rw [← hn]; exact (Array.getElem?_eq_some_iff.1 ho).1
    obtain ⟨x, rfl, hG, hQ⟩ := hI
    have := step i o f x w1 hin ho hf hp hG hQ (fun a' w' => ∃ v, a' = Fr (setX x i v) ∧ Q i v w' ∧ Below w1.heap.size w1 w') (fun v w' h1 h2 => ⟨v, rfl, h1, h2⟩)
    split at this
    · rename_i hw
      rw [if_pos hw]
      refine Oper.wp_mono (fun a' w' h => ?_) this
      obtain ⟨v, rfl, hq, hg⟩ := h
      refine ⟨_, rfl, below_trans' hG hg, fun j hj hfj => ?_⟩
      by_cases e2 : j = i
      · subst e2; simpa [setX] using hq
      · rw [upd_ne e2] at hfj
        simpa [setX, e2] using qmono j _ _ _ hj (hQ j hj hfj) hg
    · exact this.elim
  · intro f a w1 hf h
    obtain ⟨x, rfl, hG, hQ⟩ := h
    exact fin x w1 hG (fun j hj => hQ j hj (hf j (by omega)))
/-- the same with an invariant G of one's own on the world and what was made so far, and a relation Rel that keeps the facts: for regions that draw, and store into variables of their own -/
theorem inv_region {P : Program} {id n : Nat} {ops : Array Oper} {Qp : Exit → Act → World → Prop} {a : Act} {w : World} (hm : P.follows .mixedOrders = true) (hn : ops.size = n) (Fr : (Nat → Value) → Act) (Q : Nat → Value → World → Prop)
    (G : (Nat → Bool) → World → Prop) (Rel : World → World → Prop)
    (dag : (List.range ops.size).all (fun i => ((ops[i]?).map fun o => o.after.all fun e => !(Region.binds .any e) || decide (e.on < i)).getD true) = true)
    (x0 : Nat → Value) (ha : a = Fr x0) (h0 : G (fun _ => false) w.drew)
    (qmono : ∀ j v w w', j < n → Q j v w → Rel w w' → Q j v w')
    (step : ∀ (i : Nat) (o : Oper) (f : Nat → Bool) (x : Nat → Value) (w1 : World), i < n → ops[i]? = some o → f i = false → (∀ e ∈ o.after, Region.binds .any e = true → f e.on = true) → G f w1 → (∀ j, j < n → f j = true → Q j (x j) w1) →
      ∀ K : Act → World → Prop, (∀ v w', Q i v w' → Rel w1 w' → G (upd f i) w' → K (Fr (setX x i v)) w') → if Region.wanted o (yielded ops (Fr x).tmps) = true then o.wp P (Fr x) w1 K Qp else False)
    (fin : ∀ x f w1, (∀ i, i < n → f i = true) → G f w1 → (∀ j, j < n → Q j (x j) w1) → Qp .normal (Fr x) w1) : (Code.region id ops true).wp P Qp a w := by
  subst ha
  refine region_inv2 hm (fun f a w1 => ∃ x, a = Fr x ∧ G f w1 ∧ ∀ j, j < n → f j = true → Q j (x j) w1) dag ?_ ?_ ?_
  · exact ⟨x0, rfl, h0, (fun j _ h => by cases h)⟩
  · intro i o f a w1 ho hf hp hI
    have hin : i < n := by rw [← hn]; exact (Array.getElem?_eq_some_iff.1 ho).1
    obtain ⟨x, rfl, hG, hQ⟩ := hI
    have := step i o f x w1 hin ho hf hp hG hQ (fun a' w' => ∃ v, a' = Fr (setX x i v) ∧ Q i v w' ∧ Rel w1 w' ∧ G (upd f i) w') (fun v w' h1 h2 h3 => ⟨v, rfl, h1, h2, h3⟩)
    split at this
    · rename_i hw
      rw [if_pos hw]
      refine Oper.wp_mono (fun a' w' h => ?_) this
      obtain ⟨v, rfl, hq, hg, hG'⟩ := h
      refine ⟨_, rfl, hG', fun j hj hfj => ?_⟩
      by_cases e2 : j = i
      · subst e2; simpa [setX] using hq
      · rw [upd_ne e2] at hfj
        simpa [setX, e2] using qmono j _ _ _ hj (hQ j hj hfj) hg
    · exact this.elim
  · intro f a w1 hf h
    obtain ⟨x, rfl, hG, hQ⟩ := h
    exact fin x f w1 (fun i hi => hf i (by omega)) hG (fun j hj => hQ j hj (hf j (by omega)))
/-! A drawn region that stores into a variable of its own (block q, made at or behind W0): the world of it. -/
/-- all blocks but the reader's and q stay -/
def Kp (g q : Nat) (w w' : World) : Prop := w.heap.size ≤ w'.heap.size ∧ ∀ k, k < w.heap.size → k ≠ g → k ≠ q → w'.heap[k]? = w.heap[k]?
theorem Kp.refl (g q : Nat) (w : World) : Kp g q w w := ⟨Nat.le_refl _, fun _ _ _ _ => rfl⟩
theorem Kp.of {g q : Nat} {w w' : World} (h : w.grownBy w' (some g)) : Kp g q w w' := ⟨h.size, fun k hk hne _ => h.block k hk (by intro e; injection e; omega)⟩
theorem Kp.cell {g q : Nat} {w w' : World} (h : Kp g q w w') {b : Nat} (hb : b < w.heap.size) (h1 : b ≠ g) (h2 : b ≠ q) (j : Nat) : w'.cell? ⟨b, j, none⟩ = w.cell? ⟨b, j, none⟩ :=
  World.cell?_of_block (w := w) (a := ⟨b, j, none⟩) (h.2 b hb h1 h2)
theorem Kp.set {g q : Nat} {w w' : World} (h : Kp g q w w') (j : Nat) (u : Value) : Kp g q w (w'.setCell ⟨q, j, none⟩ u) :=
  ⟨by simpa [World.setCell] using h.1, fun k hk h1 h2 => (Below.heap_setCell w' ⟨q, j, none⟩ u k (by intro e; exact h2 e)).trans (h.2 k hk h1 h2)⟩
structure SetG (W : World) (g m : Nat) (l : List (Nat × Nat)) (B : Nat) (f : Nat → Bool) (w : World) : Prop where
  rd : ∃ c, Rd W w g c ∧ c ≤ m + costF l f
  sz : B ≤ w.heap.size
theorem SetG.lt {W : World} {g m B : Nat} {l : List (Nat × Nat)} {f : Nat → Bool} {w : World} (h : SetG W g m l B f w) : g < w.heap.size := by
  obtain ⟨c, hc, _⟩ := h.rd; exact hc.lt
theorem SetG.rd' {W : World} {g m B : Nat} {l : List (Nat × Nat)} {f : Nat → Bool} {w : World} (h : SetG W g m l B f w) : Rd W w g (m + costF l f) := by
  obtain ⟨c, hc, hm⟩ := h.rd; exact hc.more hm
theorem SetG.step {W : World} {g m B : Nat} {l : List (Nat × Nat)} {f : Nat → Bool} {w : World} (h : SetG W g m l B f w) (i : Nat) : SetG W g m l B (upd f i) w := by
  obtain ⟨c, hc, hm⟩ := h.rd
  exact ⟨⟨c, hc, Nat.le_trans hm (Nat.add_le_add_left (cost_mono l f i) m)⟩, h.sz⟩
theorem SetG.alloc {W : World} {g m B : Nat} {l : List (Nat × Nat)} {f : Nat → Bool} {w : World} (h : SetG W g m l B f w) (o : Obj) (i : Nat) : SetG W g m l B (upd f i) (w.alloc o) := by
  obtain ⟨c, hc, hm⟩ := h.rd
  exact ⟨⟨c, hc.alloc o, Nat.le_trans hm (Nat.add_le_add_left (cost_mono l f i) m)⟩, by have := h.sz; simp; omega⟩
theorem SetG.call {W : World} {g m B : Nat} {l : List (Nat × Nat)} {f : Nat → Bool} {w w' : World} (h : SetG W g m l B f w) {i c : Nat} (hi : (i, c) ∈ l) (hf : f i = false) (hr : Rd W w' g (m + costF l f + c)) (hg : w.grownBy w' (some g)) : SetG W g m l B (upd f i) w' :=
  ⟨⟨_, hr, by have := cost_new hi hf; omega⟩, Nat.le_trans h.sz hg.size⟩
theorem SetG.set {W : World} {g m B : Nat} {l : List (Nat × Nat)} {f : Nat → Bool} {w : World} (h : SetG W g m l B f w) {q : Nat} (hb : W.heap.size ≤ q) (hg : q ≠ g) (j : Nat) (u : Value) : SetG W g m l B f (w.setCell ⟨q, j, none⟩ u) := by
  obtain ⟨c, hc, hm⟩ := h.rd
  have hs := only_setCell' w q j u
  exact ⟨⟨c, hc.grown hs (by intro e; injection e; omega) (by intro k hk; injection hk; omega), hm⟩, Nat.le_trans h.sz hs.size⟩
/-- a row of numbers that was made -/
def RowAt (B g n : Nat) (cs : Array Value) (v : Value) (w : World) : Prop := ∃ b, v = .slice (some ⟨b, 0, none⟩) n n ∧ B ≤ b ∧ b ≠ g ∧ b < w.heap.size ∧ ∀ j : Nat, w.cell? ⟨b, j, none⟩ = cs[j]?
theorem RowAt.keep {B g q n : Nat} {cs : Array Value} {v : Value} {w w' : World} (h : RowAt B g n cs v w) (hq : q < B) (hk : Kp g q w w') : RowAt B g n cs v w' := by
  obtain ⟨b, rfl, h1, h2, h3, h4⟩ := h
  exact ⟨b, rfl, h1, h2, Nat.lt_of_lt_of_le h3 hk.1, fun j => by rw [hk.cell h3 h2 (by omega)]; exact h4 j⟩
theorem RowAt.new {B g n : Nat} {cs : Array Value} {t : TypeId} {w : World} (hB : B ≤ w.heap.size) (hg : g < w.heap.size) : RowAt B g n cs (.slice (some ⟨w.heap.size, 0, none⟩) n n) (w.alloc (.cells cs t)) :=
  ⟨_, rfl, hB, by omega, by simp, fun j => World.cell?_alloc_new w cs t j⟩
/-- a cell of such a row -/
def CelAt (B g : Nat) (u v : Value) (w : World) : Prop := ∃ b j, v = .pointer (some ⟨b, j, none⟩) ∧ B ≤ b ∧ b ≠ g ∧ b < w.heap.size ∧ w.cell? ⟨b, j, none⟩ = some u
theorem CelAt.keep {B g q : Nat} {u v : Value} {w w' : World} (h : CelAt B g u v w) (hq : q < B) (hk : Kp g q w w') : CelAt B g u v w' := by
  obtain ⟨b, j, rfl, h1, h2, h3, h4⟩ := h
  exact ⟨b, j, rfl, h1, h2, Nat.lt_of_lt_of_le h3 hk.1, by rw [hk.cell h3 h2 (by omega)]; exact h4⟩
/-! A text as its words between single spaces. -/
def wdS : List UInt8 → List (List UInt8)
  | [] => [[]]
  | c :: t => if c = 32 then [] :: wdS t else (c :: (wdS t).headD []) :: (wdS t).tail
theorem wdS_ne (s : List UInt8) : wdS s ≠ [] := by
  cases s with
  | nil => simp [wdS]
  | cons c t => unfold wdS; split <;> simp
/-- words with single spaces between them -/
def jnS : List (List UInt8) → List UInt8
  | [] => []
  | [x] => x
  | x :: y :: r => x ++ 32 :: jnS (y :: r)
theorem jnS_cons (c : UInt8) (x : List UInt8) (r : List (List UInt8)) : jnS ((c :: x) :: r) = c :: jnS (x :: r) := by
  cases r <;> rfl
theorem jnS_wdS : ∀ s, jnS (wdS s) = s := by
  intro s
  induction s with
  | nil => rfl
  | cons c t ih =>
    have hn := wdS_ne t
    unfold wdS
    split
    · rename_i h
      subst h
      cases q : wdS t with
      | nil => exact absurd q hn
      | cons x r => rw [q] at ih; show [] ++ 32 :: jnS (x :: r) = _; rw [ih]; rfl
    · cases q : wdS t with
      | nil => exact absurd q hn
      | cons x r =>
        rw [q] at ih
        show jnS ((c :: x) :: r) = _
        rw [jnS_cons, ih]
theorem wdS_no : ∀ s, ∀ x ∈ wdS s, (32 : UInt8) ∉ x := by
  intro s
  induction s with
  | nil => intro x m; have : x = [] := by simpa [wdS] using m
           subst this; simp
  | cons c t ih =>
    have hn := wdS_ne t
    intro x m
    unfold wdS at m
    split at m
    · rcases List.mem_cons.1 m with rfl | m
      · simp
      · exact ih x m
    · rename_i h
      cases q : wdS t with
      | nil => exact absurd q hn
      | cons y r =>
        rw [q] at m ih
        simp only [List.headD_cons, List.tail_cons] at m
        rcases List.mem_cons.1 m with rfl | m
        · intro k
          rcases List.mem_cons.1 k with k | k
          · exact h k.symm
          · exact ih y (by simp) k
        · exact ih x (by simp [m])
theorem wdS_one : ∀ u : List UInt8, (32 : UInt8) ∉ u → wdS u = [u] := by
  intro u
  induction u with
  | nil => intro _; rfl
  | cons c t ih =>
    intro h
    have h1 : ¬ c = 32 := fun e => h (by simp [e])
    have h2 := ih (fun e => h (by simp [e]))
    unfold wdS
    rw [if_neg h1, h2]
    rfl
theorem wdS_app : ∀ (u t : List UInt8), (32 : UInt8) ∉ u → wdS (u ++ 32 :: t) = u :: wdS t := by
  intro u
  induction u with
  | nil => intro t _; simp [wdS]
  | cons c u ih =>
    intro t h
    have h1 : ¬ c = 32 := fun e => h (by simp [e])
    have h2 := ih t (fun e => h (by simp [e]))
    rw [List.cons_append]
    conv => lhs; unfold wdS
    rw [if_neg h1, h2]
    rfl
/-- a byte more: a new word behind a space, else the last word is longer -/
theorem wdS_snoc : ∀ (s : List UInt8) (c : UInt8), ∃ M x, wdS s = M ++ [x] ∧ wdS (s ++ [c]) = if c = 32 then M ++ [x] ++ [[]] else M ++ [x ++ [c]] := by
  intro s c
  induction s with
  | nil =>
    refine ⟨[], [], rfl, ?_⟩
    simp only [List.nil_append, wdS]
    split <;> rfl
  | cons d t ih =>
    obtain ⟨M, x, h1, h2⟩ := ih
    rw [List.cons_append]
    unfold wdS
    by_cases hd : d = 32
    · rw [if_pos hd, if_pos hd, h1, h2]
      refine ⟨[] :: M, x, rfl, ?_⟩
      split <;> rfl
    · rw [if_neg hd, if_neg hd, h1, h2]
      cases M with
      | nil =>
        refine ⟨[], d :: x, rfl, ?_⟩
        split <;> rfl
      | cons y r =>
        refine ⟨(d :: y) :: r, x, rfl, ?_⟩
        split <;> rfl
theorem wdS_len (s : List UInt8) : (wdS s).length ≤ s.length + 1 := by
  induction s with
  | nil => simp [wdS]
  | cons c t ih =>
    have hn := wdS_ne t
    unfold wdS
    split
    · simp only [List.length_cons]; omega
    · cases q : wdS t with
      | nil => exact absurd q hn
      | cons y r => rw [q] at ih; simp only [List.length_cons, List.tail_cons] at ih ⊢; omega
theorem jnS_mem : ∀ (L : List (List UInt8)) (x : List UInt8), x ∈ L → x.length ≤ (jnS L).length := by
  intro L
  induction L with
  | nil => intro x m; simp at m
  | cons y r ih =>
    intro x m
    cases r with
    | nil => have : x = y := by simpa using m
             subst this; exact Nat.le_refl _
    | cons z r =>
      show x.length ≤ (y ++ 32 :: jnS (z :: r)).length
      rw [List.length_append, List.length_cons]
      rcases List.mem_cons.1 m with rfl | m
      · omega
      · have := ih x m; omega
/-- a word is no longer than the text -/
theorem wdS_mem (s x : List UInt8) (h : x ∈ wdS s) : x.length ≤ s.length := by
  have := jnS_mem _ x h; rwa [jnS_wdS] at this
/-- an activity -/
structure Ay where
  kind : Int
  num : Int
  who : Hn
  what : ByteArray
instance ayDec : DecidableEq Ay := fun a b => if h : a.kind = b.kind ∧ a.num = b.num ∧ a.who = b.who ∧ a.what = b.what then isTrue (by obtain ⟨a0, a1, a2, a3⟩ := a; obtain ⟨b0, b1, b2, b3⟩ := b; obtain ⟨h0, h1, h2, h3⟩ := h; simp only at h0 h1 h2 h3; subst h0; subst h1; subst h2; subst h3; rfl) else isFalse (by rintro rfl; exact h ⟨rfl, rfl, rfl, rfl⟩)
def Ay.zero : Ay := ⟨0, 0, Hn.zero, ⟨#[]⟩⟩
def ayB (a : Ay) : Bool := decide (0 ≤ a.kind ∧ a.kind ≤ 5) && decide (0 ≤ a.num ∧ a.num ≤ 1000000000) && hnB a.who && wordB a.what.data.toList
theorem ayB_of {a : Ay} (h : ayB a = true) : (0 ≤ a.kind ∧ a.kind ≤ 5) ∧ (0 ≤ a.num ∧ a.num ≤ 1000000000) ∧ hnB a.who = true ∧ wordB a.what.data.toList = true := by
  unfold ayB at h; simp only [Bool.and_eq_true, decide_eq_true_eq] at h; exact ⟨h.1.1.1, h.1.1.2, h.1.2, h.2⟩
theorem ayB_mk {a : Ay} (h0 : 0 ≤ a.kind ∧ a.kind ≤ 5) (h1 : 0 ≤ a.num ∧ a.num ≤ 1000000000) (h2 : hnB a.who = true) (h3 : wordB a.what.data.toList = true) : ayB a = true := by
  unfold ayB; simp only [Bool.and_eq_true, decide_eq_true_eq]; exact ⟨⟨⟨h0, h1⟩, h2⟩, h3⟩
theorem ayB_not {a : Ay} (h : ayB a = true → False) : ayB a = false := by
  rcases q : ayB a with _ | _
  · rfl
  · exact (h q).elim
theorem ayB_zero : ayB Ay.zero = false := by decide
/-- the words of the kinds -/
def kwL : List (List UInt8) := [[99, 114, 101, 97, 116, 101], [117, 112, 100, 97, 116, 101], [100, 101, 108, 101, 116, 101], [102, 111, 108, 108, 111, 119], [97, 99, 99, 101, 112, 116], [117, 110, 100, 111]]
def kwT (k : Int) : List UInt8 := kwL.getD k.toNat []
theorem six {k : Int} (h : 0 ≤ k ∧ k ≤ 5) : k = 0 ∨ k = 1 ∨ k = 2 ∨ k = 3 ∨ k = 4 ∨ k = 5 := by omega
theorem kwT_no32 {k : Int} (h : 0 ≤ k ∧ k ≤ 5) : (32 : UInt8) ∉ kwT k := by
  obtain rfl | rfl | rfl | rfl | rfl | rfl := six h <;> decide
theorem kwT_len {k : Int} (h : 0 ≤ k ∧ k ≤ 5) : (kwT k).length ≤ 6 := by
  obtain rfl | rfl | rfl | rfl | rfl | rfl := six h <;> decide
/-- the kind of a word; -1 for other words -/
def kwI (l : List UInt8) : Int := if l = kwT 0 then 0 else if l = kwT 1 then 1 else if l = kwT 2 then 2 else if l = kwT 3 then 3 else if l = kwT 4 then 4 else if l = kwT 5 then 5 else -1
theorem kwI_T {k : Int} (h : 0 ≤ k ∧ k ≤ 5) : kwI (kwT k) = k := by
  obtain rfl | rfl | rfl | rfl | rfl | rfl := six h <;> decide
theorem kwI_of {l : List UInt8} (h : 0 ≤ kwI l) : kwI l ≤ 5 ∧ kwT (kwI l) = l := by
  unfold kwI at h ⊢
  split
  · rename_i q; exact ⟨by omega, q.symm⟩
  · split
    · rename_i q; exact ⟨by omega, q.symm⟩
    · split
      · rename_i q; exact ⟨by omega, q.symm⟩
      · split
        · rename_i q; exact ⟨by omega, q.symm⟩
        · split
          · rename_i q; exact ⟨by omega, q.symm⟩
          · split
            · rename_i q; exact ⟨by omega, q.symm⟩
            · rename_i a b c d e f
              rw [if_neg a, if_neg b, if_neg c, if_neg d, if_neg e, if_neg f] at h; omega
theorem kwI_is {l : List UInt8} {k : Int} (h : 0 ≤ k ∧ k ≤ 5) (e : l = kwT k) : kwI l = k := by rw [e]; exact kwI_T h
theorem kwI_no {l : List UInt8} (h : ∀ k : Int, 0 ≤ k → k ≤ 5 → l ≠ kwT k) : kwI l = -1 := by
  unfold kwI
  rw [if_neg (h 0 (by omega) (by omega)), if_neg (h 1 (by omega) (by omega)), if_neg (h 2 (by omega) (by omega)), if_neg (h 3 (by omega) (by omega)), if_neg (h 4 (by omega) (by omega)), if_neg (h 5 (by omega) (by omega))]
/-- its text -/
def ayT1 (a : Ay) : List UInt8 := kwT a.kind ++ 32 :: (markT a.num ++ 32 :: (hnT1 a.who ++ 32 :: a.what.data.toList))
def ayT (a : Ay) : List UInt8 := if ayB a then ayT1 a else []
theorem ayT_in {a : Ay} (e : ayB a = true) : ayT a = ayT1 a := by simp [ayT, e]
theorem ayT_out {a : Ay} (e : ayB a = false) : ayT a = [] := by simp [ayT, e]
theorem wc_no32 {l : List UInt8} (h : l.all wcB = true) : (32 : UInt8) ∉ l := by
  intro m
  have := List.all_eq_true.1 h _ m
  revert this; decide
theorem word_no32 {l : List UInt8} (h : wordB l = true) : (32 : UInt8) ∉ l := by
  unfold wordB at h
  simp only [Bool.and_eq_true] at h
  exact wc_no32 h.2
theorem digOk_32 : digOk 32 = false := by decide
theorem mark_no32 (n : Int) : (32 : UInt8) ∉ markT n := by
  intro m
  by_cases h : n < 0 ∨ 1000000000 < n
  · rw [markT_out h] at m; simp at m
  · obtain ⟨q, rfl⟩ : ∃ q : Nat, n = q := ⟨n.toNat, by omega⟩
    rw [markT_in (by omega)] at m
    have := List.all_eq_true.1 (markL_all q) _ m
    rw [digOk_32] at this; cases this
theorem hn_no32 {x : Hn} (h : hnB x = true) : (32 : UInt8) ∉ hnT1 x := by
  unfold hnT1
  intro m
  rcases List.mem_cons.1 m with m | m
  · revert m; decide
  · rcases List.mem_append.1 m with m | m
    · exact word_no32 (hnB_of h).1 m
    · rcases List.mem_cons.1 m with m | m
      · revert m; decide
      · exact word_no32 (hnB_of h).2 m
/-- the words of the text of a valid one -/
theorem ay_words {a : Ay} (h : ayB a = true) : wdS (ayT1 a) = [kwT a.kind, markT a.num, hnT1 a.who, a.what.data.toList] := by
  obtain ⟨h0, h1, h2, h3⟩ := ayB_of h
  unfold ayT1
  rw [wdS_app _ _ (kwT_no32 h0), wdS_app _ _ (mark_no32 _), wdS_app _ _ (hn_no32 h2), wdS_one _ (word_no32 h3)]
theorem markT_inj {a b : Int} (ha : 0 ≤ a ∧ a ≤ 1000000000) (hb : 0 ≤ b ∧ b ≤ 1000000000) (e : markT a = markT b) : a = b := by
  obtain ⟨m, rfl⟩ : ∃ q : Nat, a = q := ⟨a.toNat, by omega⟩
  obtain ⟨n, rfl⟩ : ∃ q : Nat, b = q := ⟨b.toNat, by omega⟩
  rw [markT_in (by omega), markT_in (by omega)] at e
  have := congrArg readM e
  rw [readM_markL (by omega), readM_markL (by omega)] at this
  exact this
theorem ay_inj {a b : Ay} (ha : ayB a = true) (hb : ayB b = true) (e : ayT1 a = ayT1 b) : a = b := by
  have h := congrArg wdS e
  rw [ay_words ha, ay_words hb] at h
  obtain ⟨a0, a1, a2, a3⟩ := ayB_of ha
  obtain ⟨b0, b1, b2, b3⟩ := ayB_of hb
  obtain ⟨k, n, w, t⟩ := a
  obtain ⟨k', n', w', t'⟩ := b
  simp only [List.cons.injEq, and_true] at h a0 a1 a2 b0 b1 b2
  obtain ⟨q0, q1, q2, q3⟩ := h
  have e0 := congrArg kwI q0
  rw [kwI_T a0, kwI_T b0] at e0
  have e1 := markT_inj a1 b1 q1
  have e2 := hn_inj a2 b2 q2
  have e3 : t = t' := by apply ByteArray.ext; exact Array.toList_inj.1 q3
  subst e0; subst e1; subst e2; subst e3; rfl
open Classical in
/-- the activity that a text stands for -/
noncomputable def ayR (s : List UInt8) : Ay × Bool := if h : ∃ x, ayB x = true ∧ ayT1 x = s then (Classical.choose h, true) else (Ay.zero, false)
theorem ayR_of {s : List UInt8} {x : Ay} (a : ayB x = true) (e : ayT1 x = s) : ayR s = (x, true) := by
  have h : ∃ x, ayB x = true ∧ ayT1 x = s := ⟨x, a, e⟩
  unfold ayR
  rw [dif_pos h]
  obtain ⟨c, d⟩ := Classical.choose_spec h
  rw [ay_inj c a (d.trans e.symm)]
theorem ayR_no {s : List UInt8} (e : ∀ x, ayB x = true → ayT1 x ≠ s) : ayR s = (Ay.zero, false) := by
  unfold ayR
  rw [dif_neg (by rintro ⟨x, a, b⟩; exact e x a b)]
theorem ayR_text {x : Ay} (a : ayB x = true) : ayR (ayT x) = (x, true) := by rw [ayT_in a]; exact ayR_of a rfl
theorem ayR_got {s : List UInt8} {x : Ay} (h : ayR s = (x, true)) : ayB x = true ∧ ayT x = s := by
  unfold ayR at h
  split at h
  · rename_i q
    obtain ⟨c, d⟩ := Classical.choose_spec q
    have : Classical.choose q = x := by injection h
    rw [this] at c d
    exact ⟨c, by rw [ayT_in c]; exact d⟩
  · simp at h
theorem ayR_false {s : List UInt8} {x : Ay} (h : ayR s = (x, false)) : x = Ay.zero := by
  unfold ayR at h
  split at h
  · simp at h
  · injection h with a b; exact a.symm
/-- with a space behind it nothing is an activity's text -/
theorem ayR_more {s : List UInt8} {x : Ay} (h : ayR s = (x, true)) : ayR (s ++ [32]) = (Ay.zero, false) := by
  obtain ⟨a, e⟩ := ayR_got h
  refine ayR_no (fun y b q => ?_)
  rw [ayT_in a] at e
  subst e
  have h := ay_words b
  rw [q] at h
  obtain ⟨M, z, h1, h2⟩ := wdS_snoc (ayT1 x) 32
  rw [h2] at h
  rw [ay_words a] at h1
  simp only [if_true] at h
  have hl := congrArg List.length h
  have hl1 := congrArg List.length h1
  simp at hl hl1; omega
theorem wdS_4 {s a b c d : List UInt8} (h : wdS s = [a, b, c, d]) : s = a ++ 32 :: (b ++ 32 :: (c ++ 32 :: d)) := by
  have := jnS_wdS s; rw [h] at this; exact this.symm
/-- no text of an activity has other than four words -/
theorem ayR_len {s : List UInt8} (h : (wdS s).length ≠ 4) : ayR s = (Ay.zero, false) :=
  ayR_no fun y b q => h (by rw [← q, ay_words b]; rfl)
theorem readM_T {n : Int} (h : 0 ≤ n ∧ n ≤ 1000000000) : readM (markT n) = n := by
  obtain ⟨m, rfl⟩ : ∃ q : Nat, n = q := ⟨n.toNat, by omega⟩
  rw [markT_in (by omega), readM_markL (by omega)]
theorem markT_readM {l : List UInt8} (h : 0 ≤ readM l) : markT (readM l) = l := by
  rcases readM_lo l with q | ⟨q0, q1, q2, q3⟩
  · omega
  · rw [q3] at q1 ⊢
    rw [markT_in (by omega), markL_of_canon q2]
/-- what four words are read as -/
noncomputable def ayW (a b c : List UInt8) (d : ByteArray) : Ay := ⟨kwI a, readM b, (hnR c).1, d⟩
theorem ayR_yes {s a b c : List UInt8} {d : ByteArray} (h : wdS s = [a, b, c, d.data.toList]) (h1 : (hnR c).2 = true) (h2 : ayB (ayW a b c d) = true) : ayR s = (ayW a b c d, true) := by
  refine ayR_of h2 ?_
  obtain ⟨q0, q1, q2, q3⟩ := ayB_of h2
  have e : hnR c = ((hnR c).1, true) := by rw [← h1]
  obtain ⟨e1, e2⟩ := hnR_got e
  rw [hnT_in e1] at e2
  rw [wdS_4 h]
  show kwT (kwI a) ++ 32 :: (markT (readM b) ++ 32 :: (hnT1 (hnR c).1 ++ 32 :: d.data.toList)) = _
  rw [(kwI_of q0.1).2, markT_readM q1.1]
  have e3 : hnT1 (hnR c).1 = c := e2
  rw [e3]
theorem ayR_bad {s a b c : List UInt8} {d : ByteArray} (h : wdS s = [a, b, c, d.data.toList]) (h1 : (hnR c).2 = false ∨ ayB (ayW a b c d) = false) : ayR s = (Ay.zero, false) := by
  refine ayR_no fun y hb q => ?_
  have e := ay_words hb
  rw [q, h] at e
  simp only [List.cons.injEq, and_true] at e
  obtain ⟨e0, e1, e2, e3⟩ := e
  obtain ⟨b0, b1, b2, b3⟩ := ayB_of hb
  have hc : hnR c = (y.who, true) := hnR_of b2 e2.symm
  rcases h1 with h1 | h1
  · rw [hc] at h1; cases h1
  · have : ayW a b c d = y := by
      unfold ayW
      rw [e0, e1, kwI_T b0, readM_T b1, hc]
      have e4 : d = y.what := by apply ByteArray.ext; exact Array.toList_inj.1 e3
      rw [e4]
    rw [this, hb] at h1; cases h1
theorem ayT_len (a : Ay) : (ayT a).length ≤ 41 := by
  unfold ayT; split
  · rename_i e
    obtain ⟨h0, h1, h2, h3⟩ := ayB_of e
    have := kwT_len h0
    have := markT_len a.num
    have h4 := hnT_len a.who
    rw [hnT_in h2] at h4
    have := word_len h3
    unfold ayT1
    simp only [List.length_append, List.length_cons]; omega
  · simp
/-- what undoes one -/
def unD (a : Ay) (n : Int) : Ay × Bool :=
  if ayB a = true ∧ (0 ≤ n ∧ n ≤ 1000000000) ∧ a.kind ≠ 2 ∧ a.kind ≠ 5 then (⟨if a.kind = 3 ∨ a.kind = 4 then 5 else 2, n, a.who, a.what⟩, true) else (Ay.zero, false)
theorem unD_no {a : Ay} {n : Int} (h : ¬ (ayB a = true ∧ (0 ≤ n ∧ n ≤ 1000000000) ∧ a.kind ≠ 2 ∧ a.kind ≠ 5)) : unD a n = (Ay.zero, false) := by unfold unD; rw [if_neg h]
theorem unD_un {a : Ay} {n : Int} (h : ayB a = true) (hn : 0 ≤ n ∧ n ≤ 1000000000) (k : a.kind = 3 ∨ a.kind = 4) : unD a n = (⟨5, n, a.who, a.what⟩, true) := by
  unfold unD; rw [if_pos ⟨h, hn, by omega, by omega⟩, if_pos k]
theorem unD_del {a : Ay} {n : Int} (h : ayB a = true) (hn : 0 ≤ n ∧ n ≤ 1000000000) (k : a.kind = 0 ∨ a.kind = 1) : unD a n = (⟨2, n, a.who, a.what⟩, true) := by
  unfold unD; rw [if_pos ⟨h, hn, by omega, by omega⟩, if_neg (by omega)]
theorem unD_got {a x : Ay} {n : Int} (h : unD a n = (x, true)) : ayB x = true ∧ x.num = n ∧ x.who = a.who ∧ x.what = a.what ∧ unD x n = (Ay.zero, false) := by
  unfold unD at h
  split at h
  · rename_i q
    obtain ⟨q0, q1, q2, q3⟩ := q
    obtain ⟨b0, b1, b2, b3⟩ := ayB_of q0
    have hx : x = ⟨if a.kind = 3 ∨ a.kind = 4 then 5 else 2, n, a.who, a.what⟩ := by injection h with h _; exact h.symm
    subst hx
    refine ⟨ayB_mk ?_ q1 b2 b3, rfl, rfl, rfl, unD_no ?_⟩
    · show 0 ≤ (if a.kind = 3 ∨ a.kind = 4 then (5 : Int) else 2) ∧ (if a.kind = 3 ∨ a.kind = 4 then (5 : Int) else 2) ≤ 5
      split <;> omega
    · rintro ⟨_, _, k2, k5⟩
      simp only at k2 k5
      split at k5
      · exact k5 rfl
      · rename_i z
        rw [if_neg z] at k2
        exact k2 rfl
  · simp at h
theorem unD_false {a x : Ay} {n : Int} (h : unD a n = (x, false)) : x = Ay.zero := by
  unfold unD at h
  split at h
  · simp at h
  · injection h with h _; exact h.symm
/-- a Activity as a value -/
def aggAy (i : Ay) : Value := .agg #[.int .i64 i.kind, .int .i64 i.num, .string i.who.name, .string i.who.host, .string i.what]
def encAy (i : Ay) : List Value := [.int .i64 i.kind, .int .i64 i.num, .string i.who.name, .string i.who.host, .string i.what]
theorem encAy_len (i : Ay) : (encAy i).length = 5 := rfl
theorem encAy_one (i : Ay) (u : Value) (h : u ∈ encAy i) : u.oneCell' = true := by
  simp [encAy] at h
  rcases h with rfl | rfl | rfl | rfl | rfl <;> rfl
/-- what comes in: any Activity -/
def InAy (i : Ay) : Prop := i.who.name.size ≤ maxLen ∧ i.who.host.size ≤ maxLen ∧ i.what.size ≤ maxLen ∧ (Lit.int .i64 i.kind).wf = true ∧ (Lit.int .i64 i.num).wf = true
def Sz1Ay (i : Ay) : Prop := i.who.name.size ≤ 1048576 ∧ i.who.host.size ≤ 1048576 ∧ i.what.size ≤ 1048576
def FitAy (i : Ay) : Prop := i.who.name.size ≤ 100000000 ∧ i.who.host.size ≤ 100000000 ∧ i.what.size ≤ 100000000
/-- a short one, as the draws make them -/
def ShAy (i : Ay) : Prop := ShI i.kind ∧ ShI i.num ∧ ShHn i.who ∧ ShS i.what
theorem fitAy_sz {i : Ay} (h : Sz1Ay i) : FitAy i := by
  unfold Sz1Ay at h; unfold FitAy; omega
theorem fitAy_sh {i : Ay} (h : ShAy i) : FitAy i := by
  simp only [ShAy, FitAy, ShS, ShHn] at h ⊢
  omega
theorem tc_wc {c : UInt8} (h : wcB c = true) : tcB c = true := by
  unfold wcB digI smlI at h
  unfold tcB
  simp only [Bool.or_eq_true, decide_eq_true_eq] at h ⊢
  omega
theorem tc_all {l : List UInt8} (h : l.all wcB = true) : l.all tcB = true := by
  rw [List.all_eq_true] at h ⊢
  exact fun c m => tc_wc (h c m)
theorem tc_word {l : List UInt8} (h : wordB l = true) : l.all tcB = true := by
  unfold wordB at h
  simp only [Bool.and_eq_true] at h
  exact tc_all h.2
theorem tc_dig_all : ∀ c : Fin 256, digOk (UInt8.ofNat c) = true → tcB (UInt8.ofNat c) = true := by decide +kernel
theorem tc_dig {c : UInt8} (h : digOk c = true) : tcB c = true := by
  have := tc_dig_all ⟨c.toNat, c.toNat_lt⟩
  simp only [UInt8.ofNat_toNat] at this
  exact this h
theorem tc_mark {n : Int} (h : 0 ≤ n ∧ n ≤ 1000000000) : (markT n).all tcB = true := by
  obtain ⟨m, rfl⟩ : ∃ q : Nat, n = q := ⟨n.toNat, by omega⟩
  rw [markT_in (by omega), List.all_eq_true]
  exact fun c q => tc_dig (List.all_eq_true.1 (markL_all m) c q)
theorem tc_kw {k : Int} (h : 0 ≤ k ∧ k ≤ 5) : (kwT k).all tcB = true := by
  obtain rfl | rfl | rfl | rfl | rfl | rfl := six h <;> decide
theorem ayT_textB {a : Ay} (h : ayB a = true) : textB (ayT a) = true := by
  have hl := ayT_len a
  obtain ⟨h0, h1, h2, h3⟩ := ayB_of h
  have e32 : tcB 32 = true := by decide
  have e64 : tcB 64 = true := by decide
  unfold textB
  rw [decide_eq_true (show (ayT a).length ≤ 80 by omega), ayT_in h]
  unfold ayT1 hnT1
  simp only [List.all_append, List.all_cons, tc_kw h0, tc_mark h1, tc_word (hnB_of h2).1, tc_word (hnB_of h2).2, tc_word h3, e32, e64]
  rfl
theorem fitAy_of {a : Ay} (h : ayB a = true) : FitAy a := by
  obtain ⟨_, _, h2, h3⟩ := ayB_of h
  have l1 := (word_len (hnB_of h2).1).2
  have l2 := (word_len (hnB_of h2).2).2
  have l3 := (word_len h3).2
  rw [blen] at l1 l2 l3
  exact ⟨by omega, by omega, by omega⟩
/-- the reader opened in a later world, over the base of an earlier one -/
theorem open_base (W w : World) (A : Option Addr) (n c : Nat) (h : CodeArg W A n c) (hb : Below W.heap.size W w) :
    Calls Try.prog 25 #[.slice A n c] w fun e w' => e = .returned (.pointer (some ⟨w.heap.size, 0, none⟩)) ∧ Rd W w' w.heap.size 0 ∧ Below w.heap.size w w' := by
  obtain ⟨h1, h2, h3⟩ := h
  unfold maxLen at h2
  have hnew : ∀ (A : Option Addr) (n c : Nat), Code8 W W.heap.size A n → Rd W (w.alloc (.cells #[.slice A n c, .int .i64 0] 62)) w.heap.size 0 := fun A n c hc =>
    ⟨hb.alloc hb.size _, hb.size, A, n, c, 0, heap_alloc_new w _, Nat.le_refl _, hc⟩
  by_cases hn : 2000 < n
  · obtain ⟨ad, rfl, hbl, hc⟩ := h3 (by omega)
    have hrd := Lib.hid (hnew (some ad) 2000 c ⟨by omega, fun _ => ⟨ad, rfl, hbl, fun i hi => hc i (by omega)⟩⟩)
    clear h3
    go_enter Try.func25, Try.ntmps25
    go_wp2
    go_ret
    exact ⟨rfl, hrd.out, (Below.refl _ _).alloc (Nat.le_refl _) _⟩
  · have hrd := Lib.hid (hnew A n c ⟨by omega, h3⟩)
    go_enter Try.func25, Try.ntmps25
    go_wp2
    go_ret
    exact ⟨rfl, hrd.out, (Below.refl _ _).alloc (Nat.le_refl _) _⟩
end Go.Proofs.Ythniiknhbhoncaa
