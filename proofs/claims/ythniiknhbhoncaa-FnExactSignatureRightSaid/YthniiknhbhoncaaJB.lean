/-
  The verifier's own text: RegPick RegCalm2 RegVar LZ TKy TSg TTn LTn.
-/
import Derived.Test.YthniiknhbhoncaaRows
import Derived.Test.YthniiknhbhoncaaGn
import Derived.Test.YthniiknhbhoncaaHG
import Derived.Test.YthniiknhbhoncaaGs
import Derived.Test.YthniiknhbhoncaaGb
import Derived.Test.YthniiknhbhoncaaGa
import Derived.Test.YthniiknhbhoncaaGq
import Derived.Test.YthniiknhbhoncaaGu
import Derived.Test.YthniiknhbhoncaaGt
import Derived.Test.YthniiknhbhoncaaJA
import Derived.Test.YthniiknhbhoncaaHA
import Derived.Lib.SmallJoins
import Derived.Test.YthniiknhbhoncaaHC
import Derived.BigFrame
import Derived.Deep.RegionHeld3
import Derived.WalkKit
import Derived.ProofKit
import Derived.Below
import Derived.Lib.Hide
import Derived.Outline
import Derived.BigQuiet
import Derived.Deep.QuietTactic
import Derived.Deep.Draws
import Derived.Laws.OwnMore
import Derived.Laws.Rows
import Derived.WalkSpells
import Derived.Deep.RegionWith
namespace Go.Proofs.Ythniiknhbhoncaa
open Go.RowKit
set_option linter.unusedVariables false
/-! A region of a draw, in the text's order or drawn: n operations with facts each, the reader's block and new blocks alone turn. -/
theorem seq_inv {P : Program} {id : Nat} {ops : Array Oper} {Q : Exit → Act → World → Prop} {a : Act} {w : World} (I : (Nat → Bool) → Act → World → Prop)
    (dag : (List.range ops.size).all (fun i => ((ops[i]?).map fun o => o.after.all fun e => !(Region.binds .any e) || decide (e.on < i)).getD true) = true)
    (start : I (fun _ => false) a w)
    (step : ∀ (i : Nat) (o : Oper) (f : Nat → Bool) (a : Act) (w : World), ops[i]? = some o → f i = false → (∀ e ∈ o.after, Region.binds .any e = true → f e.on = true) → I f a w → if Region.wanted o (yielded ops a.tmps) = true then o.wp P a w (fun a' w' => I (upd f i) a' w') Q else I (upd f i) (a.put o.dst undef) w)
    (fin : ∀ f a w, (∀ i, i < ops.size → f i = true) → I f a w → Q .normal a w) : (Code.region id ops false).wp P Q a w := by
  have key : ∀ (m k : Nat) (a : Act) (w : World), k + m = ops.size → I (fun j => decide (j < k)) a w → wpOps P ops Q (List.range' k m) a w := by
    intro m
    induction m with
    | zero =>
      intro k a w hk hI
      exact fin _ a w (fun i hi => decide_eq_true (by omega)) hI
    | succ m ih =>
      intro k a w hk hI
      rw [List.range'_succ, wpOps_cons]
      have hlt : k < ops.size := by omega
      have ho : ops[k]? = some ops[k] := Array.getElem?_eq_getElem hlt
      have := step k ops[k] _ a w ho (by simp) (fun e he hb => by
        have h1 := List.all_eq_true.1 dag k (List.mem_range.2 hlt)
        rw [ho] at h1
        simp only [Option.map_some, Option.getD_some] at h1
        have h2 := Array.all_eq_true_iff_forall_mem.1 h1 e he
        rw [hb] at h2
        simpa using h2) hI
      unfold wpOp
      rw [ho]
      have hu : upd (fun j => decide (j < k)) k = fun j => decide (j < k + 1) := by
        funext j; unfold upd
        by_cases e : j = k
        · subst e; simp
        · simp only [e, if_false]; congr 1; simp; omega
      simp only
      split at this
      · rename_i hw
        rw [if_pos hw]
        refine .inl (Oper.wp_mono (fun a' w' h => ?_) this)
        rw [hu] at h
        exact ih (k + 1) a' w' (by omega) h
      · rename_i hw
        rw [if_neg hw]
        rw [hu] at this
        exact ih (k + 1) _ _ (by omega) this
  refine wp_region ?_
  rw [List.range_eq_range']
  refine key _ 0 a w (by omega) ?_
  have : (fun j => decide (j < 0)) = fun _ : Nat => false := by funext j; simp
  rw [this]; exact start
theorem DrawG.start {W w w0 : World} {g m : Nat} {l : List (Nat × Nat)} (h : Rd W w0 g m) (hg : w.grownBy w0 (some g)) : DrawG W w g m l (fun _ => false) w0 := ⟨⟨m, h, by omega⟩, hg⟩
theorem grown_drew (w : World) (g : Option Nat) : w.grownBy w.drew g := ⟨(grown_refl w g).os, (grown_refl w g).tape, (grown_refl w g).output, (grown_refl w g).size, (grown_refl w g).block⟩
/-- **a region of a draw** -/
theorem pick_region {P : Program} {b : Bool} {id n : Nat} {ops : Array Oper} {Qp : Exit → Act → World → Prop} {a : Act} {w : World} (hm : P.follows .mixedOrders = true) (hn : ops.size = n) (W : World) (g m : Nat) (l : List (Nat × Nat)) (Fr : (Nat → Value) → Act) (Q : Nat → Value → World → Prop)
    (dag : (List.range ops.size).all (fun i => ((ops[i]?).map fun o => o.after.all fun e => !(Region.binds .any e) || decide (e.on < i)).getD true) = true)
    (x0 : Nat → Value) (ha : a = Fr x0) (hr : Rd W w g m)
    (qmono : ∀ j v w w', j < n → Q j v w → w.grownBy w' (some g) → Q j v w')
    (step : ∀ (i : Nat) (o : Oper) (f : Nat → Bool) (x : Nat → Value) (w1 : World), i < n → ops[i]? = some o → f i = false → (∀ e ∈ o.after, Region.binds .any e = true → f e.on = true) → DrawG W w g m l f w1 → (∀ j, j < n → f j = true → Q j (x j) w1) →
      ∀ K : Act → World → Prop, (∀ v w', Q i v w' → w1.grownBy w' (some g) → DrawG W w g m l (upd f i) w' → K (Fr (setX x i v)) w') → if Region.wanted o (yielded ops (Fr x).tmps) = true then o.wp P (Fr x) w1 K Qp else K ((Fr x).put o.dst undef) w1)
    (fin : ∀ x w1, Rd W w1 g (m + costAll l) → w.grownBy w1 (some g) → (∀ j, j < n → Q j (x j) w1) → Qp .normal (Fr x) w1) : (Code.region id ops b).wp P Qp a w := by
  subst ha
  have hstep : ∀ (i : Nat) (o : Oper) (f : Nat → Bool) (a : Act) (w1 : World), ops[i]? = some o → f i = false → (∀ e ∈ o.after, Region.binds .any e = true → f e.on = true) → (∃ x, a = Fr x ∧ DrawG W w g m l f w1 ∧ ∀ j, j < n → f j = true → Q j (x j) w1) →
      if Region.wanted o (yielded ops a.tmps) = true then o.wp P a w1 (fun a' w' => ∃ x, a' = Fr x ∧ DrawG W w g m l (upd f i) w' ∧ ∀ j, j < n → upd f i j = true → Q j (x j) w') Qp else ∃ x, a.put o.dst undef = Fr x ∧ DrawG W w g m l (upd f i) w1 ∧ ∀ j, j < n → upd f i j = true → Q j (x j) w1 := by
    intro i o f a w1 ho hf hp hI
    have hin : i < n := by rw [← hn]; exact (Array.getElem?_eq_some_iff.1 ho).1
    obtain ⟨x, rfl, hG, hQ⟩ := hI
    have := step i o f x w1 hin ho hf hp hG hQ (fun a' w' => ∃ v, a' = Fr (setX x i v) ∧ Q i v w' ∧ w1.grownBy w' (some g) ∧ DrawG W w g m l (upd f i) w') (fun v w' h1 h2 h3 => ⟨v, rfl, h1, h2, h3⟩)
    have hK : ∀ a' w', (∃ v, a' = Fr (setX x i v) ∧ Q i v w' ∧ w1.grownBy w' (some g) ∧ DrawG W w g m l (upd f i) w') → ∃ x, a' = Fr x ∧ DrawG W w g m l (upd f i) w' ∧ ∀ j, j < n → upd f i j = true → Q j (x j) w' := by
      intro a' w' h
      obtain ⟨v, rfl, hq, hg, hG'⟩ := h
      refine ⟨_, rfl, hG', fun j hj hfj => ?_⟩
      by_cases e2 : j = i
      · subst e2; simpa [setX] using hq
      · rw [upd_ne e2] at hfj
        simpa [setX, e2] using qmono j _ _ _ hj (hQ j hj hfj) hg
    split at this
    · rename_i hw
      rw [if_pos hw]
      exact Oper.wp_mono hK this
    · rename_i hw
      rw [if_neg hw]
      exact hK _ _ this
  have hfin : ∀ f a w1, (∀ i, i < ops.size → f i = true) → (∃ x, a = Fr x ∧ DrawG W w g m l f w1 ∧ ∀ j, j < n → f j = true → Q j (x j) w1) → Qp .normal a w1 := by
    intro f a w1 hf hI
    obtain ⟨x, rfl, hG, hQ⟩ := hI
    refine fin x w1 (hG.rd'.more (Nat.add_le_add_left (cost_all l f) m)) hG.gr (fun j hj => hQ j hj (hf j (by omega)))
  cases b with
  | false => exact seq_inv _ dag ⟨x0, rfl, DrawG.start hr (grown_refl _ _), (fun j _ h => by cases h)⟩ hstep hfin
  | true => exact region_inv2 hm _ dag ⟨x0, rfl, DrawG.start hr.drew (grown_drew _ _), (fun j _ h => by cases h)⟩ hstep hfin
/-- an int within bounds -/
def IntIn (lo hi : Int) (v : Value) : Prop := ∃ z : Int, v = .int .i64 z ∧ lo ≤ z ∧ z ≤ hi
def IntRow2 (lo hi : Int) (cs : Array Value) : Prop := ∀ j (h : j < cs.size), ∃ z : Int, cs[j] = .int .i64 z ∧ lo ≤ z ∧ z ≤ hi
def IntAt2 (g : Nat) (lo hi : Int) (v : Value) (w : World) : Prop := ∃ (b j : Nat) (z : Int), v = .pointer (some ⟨b, j, none⟩) ∧ b ≠ g ∧ b < w.heap.size ∧ w.cell? ⟨b, j, none⟩ = some (.int .i64 z) ∧ lo ≤ z ∧ z ≤ hi
theorem IntAt2.mono {g : Nat} {lo hi : Int} {v : Value} {w w' : World} (h : IntAt2 g lo hi v w) (hg : w.grownBy w' (some g)) : IntAt2 g lo hi v w' := by
  obtain ⟨b, j, z, rfl, h2, h3, h4, h5⟩ := h
  exact ⟨b, j, z, rfl, h2, Nat.lt_of_lt_of_le h3 hg.size, by rw [row_kept hg h2 h3]; exact h4, h5⟩
/-- a literal row of ints -/
def IntLit (B g n : Nat) (lo hi : Int) (v : Value) (w : World) : Prop := ∃ cs : Array Value, cs.size = n ∧ IntRow2 lo hi cs ∧ LitAt B g n cs v w
theorem IntLit.mono {B g n : Nat} {lo hi : Int} {v : Value} {w w' : World} (h : IntLit B g n lo hi v w) (hg : w.grownBy w' (some g)) : IntLit B g n lo hi v w' := by
  obtain ⟨cs, h1, h2, h3⟩ := h; exact ⟨cs, h1, h2, h3.mono hg⟩
theorem IntLit.new {B g n : Nat} {lo hi : Int} {cs : Array Value} {t : TypeId} {w : World} (hn : cs.size = n) (hr : IntRow2 lo hi cs) (hB : B ≤ w.heap.size) (hg : g < w.heap.size) : IntLit B g n lo hi (.slice (some ⟨w.heap.size, 0, none⟩) n n) (w.alloc (.cells cs t)) :=
  ⟨cs, hn, hr, LitAt.new hB hg⟩
theorem IntLit.at {B g n : Nat} {lo hi : Int} {v : Value} {w : World} (h : IntLit B g n lo hi v w) {z : Int} (h0 : 0 ≤ z) (h1 : z < n) : ∃ b, v = .slice (some ⟨b, 0, none⟩) n n ∧ IntAt2 g lo hi (.pointer (some ⟨b, z.toNat, none⟩)) w := by
  obtain ⟨cs, hn, hs, b, rfl, _, h2, h3, h4⟩ := h
  obtain ⟨u, e, hl⟩ := hs z.toNat (by omega)
  exact ⟨b, rfl, b, z.toNat, u, rfl, h2, h3, by rw [h4, Array.getElem?_eq_getElem (by omega), e], hl⟩
theorem intRow_nil {lo hi : Int} : IntRow2 lo hi #[] := fun j h => absurd h (by simp)
theorem intRow_cons {lo hi z : Int} {l : List Value} (h0 : lo ≤ z) (h1 : z ≤ hi) (h : IntRow2 lo hi l.toArray) : IntRow2 lo hi (.int .i64 z :: l).toArray := by
  intro j hj
  cases j with
  | zero => exact ⟨z, rfl, h0, h1⟩
  | succ j => obtain ⟨u, e, q⟩ := h j (by simpa using hj); exact ⟨u, by simpa using e, q⟩
/-- a literal row of short texts -/
def StrLit (B g n k : Nat) (v : Value) (w : World) : Prop := ∃ cs : Array Value, cs.size = n ∧ ShortRow k cs ∧ LitAt B g n cs v w
theorem StrLit.mono {B g n k : Nat} {v : Value} {w w' : World} (h : StrLit B g n k v w) (hg : w.grownBy w' (some g)) : StrLit B g n k v w' := by
  obtain ⟨cs, h1, h2, h3⟩ := h; exact ⟨cs, h1, h2, h3.mono hg⟩
theorem StrLit.new {B g n k : Nat} {cs : Array Value} {t : TypeId} {w : World} (hn : cs.size = n) (hr : ShortRow k cs) (hB : B ≤ w.heap.size) (hg : g < w.heap.size) : StrLit B g n k (.slice (some ⟨w.heap.size, 0, none⟩) n n) (w.alloc (.cells cs t)) :=
  ⟨cs, hn, hr, LitAt.new hB hg⟩
theorem StrLit.at {B g n k : Nat} {v : Value} {w : World} (h : StrLit B g n k v w) {z : Int} (h0 : 0 ≤ z) (h1 : z < n) : ∃ b, v = .slice (some ⟨b, 0, none⟩) n n ∧ StrAt g k (.pointer (some ⟨b, z.toNat, none⟩)) w := by
  obtain ⟨cs, hn, hs, hl⟩ := h
  exact hl.at hs hn h0 h1
theorem shortRow_nil {k : Nat} : ShortRow k #[] := fun j h => absurd h (by simp)
theorem shortRow_cons {k : Nat} {s : ByteArray} {l : List Value} (h0 : s.size ≤ k) (h : ShortRow k l.toArray) : ShortRow k (.string s :: l).toArray := by
  intro j hj
  cases j with
  | zero => exact ⟨s, rfl, h0⟩
  | succ j => obtain ⟨u, e, q⟩ := h j (by simpa using hj); exact ⟨u, by simpa using e, q⟩
/-- the first m operations of a region in the text's order, then the rest of it -/
theorem pick_prefix {P : Program} {id n : Nat} {ops : Array Oper} {Qp : Exit → Act → World → Prop} {a : Act} {w : World} (hn : n ≤ ops.size) (W : World) (g m : Nat) (l : List (Nat × Nat)) (Fr : (Nat → Value) → Act) (Q : Nat → Value → World → Prop)
    (dag : (List.range n).all (fun i => ((ops[i]?).map fun o => o.after.all fun e => !(Region.binds .any e) || decide (e.on < i)).getD true) = true)
    (x0 : Nat → Value) (ha : a = Fr x0) (hr : Rd W w g m)
    (qmono : ∀ j v w w', j < n → Q j v w → w.grownBy w' (some g) → Q j v w')
    (step : ∀ (i : Nat) (o : Oper) (f : Nat → Bool) (x : Nat → Value) (w1 : World), i < n → ops[i]? = some o → f i = false → (∀ e ∈ o.after, Region.binds .any e = true → f e.on = true) → DrawG W w g m l f w1 → (∀ j, j < n → f j = true → Q j (x j) w1) →
      ∀ K : Act → World → Prop, (∀ v w', Q i v w' → w1.grownBy w' (some g) → DrawG W w g m l (upd f i) w' → K (Fr (setX x i v)) w') → if Region.wanted o (yielded ops (Fr x).tmps) = true then o.wp P (Fr x) w1 K Qp else K ((Fr x).put o.dst undef) w1)
    (fin : ∀ x w1, Rd W w1 g (m + costAll l) → w.grownBy w1 (some g) → (∀ j, j < n → Q j (x j) w1) → wpList P ops Qp (ops.toList.drop n) (Fr x) w1) : (Code.region id ops false).wp P Qp a w := by
  subst ha
  have key : ∀ (t k : Nat) (x : Nat → Value) (w1 : World), k + t = n → DrawG W w g m l (fun j => decide (j < k)) w1 → (∀ j, j < k → Q j (x j) w1) → wpOps P ops Qp (List.range' k (t + (ops.size - n))) (Fr x) w1 := by
    intro t
    induction t with
    | zero =>
      intro k x w1 hk hG hQ
      obtain rfl : k = n := by omega
      have hl : (ops.toList.drop k).length = 0 + (ops.size - k) := by simp
      rw [← hl, wpOps_eq_wpList (ops.toList.drop k) k (by intro j; simp)]
      exact fin x w1 (hG.rd'.more (Nat.add_le_add_left (cost_all l _) m)) hG.gr hQ
    | succ t ih =>
      intro k x w1 hk hG hQ
      have hlt : k < ops.size := by omega
      have ho : ops[k]? = some ops[k] := Array.getElem?_eq_getElem hlt
      rw [show t + 1 + (ops.size - n) = (t + (ops.size - n)) + 1 by omega, List.range'_succ, wpOps_cons]
      have := step k ops[k] _ x w1 (by omega) ho (by simp) (fun e he hb => by
        have h1 := List.all_eq_true.1 dag k (List.mem_range.2 (by omega))
        rw [ho] at h1
        simp only [Option.map_some, Option.getD_some] at h1
        have h2 := Array.all_eq_true_iff_forall_mem.1 h1 e he
        rw [hb] at h2
        simpa using h2) hG (fun j hj hfj => hQ j (by simpa using hfj)) (fun a' w' => ∃ v, a' = Fr (setX x k v) ∧ Q k v w' ∧ w1.grownBy w' (some g) ∧ DrawG W w g m l (upd (fun j => decide (j < k)) k) w') (fun v w' h1 h2 h3 => ⟨v, rfl, h1, h2, h3⟩)
      have hu : upd (fun j => decide (j < k)) k = fun j => decide (j < k + 1) := by
        funext j; unfold upd
        by_cases e : j = k
        · subst e; simp
        · simp only [e, if_false]; congr 1; simp; omega
      have hK : ∀ a' w', (∃ v, a' = Fr (setX x k v) ∧ Q k v w' ∧ w1.grownBy w' (some g) ∧ DrawG W w g m l (upd (fun j => decide (j < k)) k) w') → wpOps P ops Qp (List.range' (k + 1) (t + (ops.size - n))) a' w' := by
        rintro a' w' ⟨v, rfl, h1, h2, h3⟩
        rw [hu] at h3
        refine ih (k + 1) _ w' (by omega) h3 (fun j hj => ?_)
        by_cases e : j = k
        · subst e; simpa [setX] using h1
        · simpa [setX, e] using qmono j _ _ _ (by omega) (hQ j (by omega)) h2
      unfold wpOp
      rw [ho]
      simp only
      split at this
      · rename_i hw
        rw [if_pos hw]
        exact .inl (Oper.wp_mono hK this)
      · rename_i hw
        rw [if_neg hw]
        exact hK _ _ this
  refine wp_region ?_
  rw [List.range_eq_range']
  have := key n 0 x0 w (by omega) (DrawG.start hr (grown_refl _ _)) (by intro j h; omega)
  rwa [show n + (ops.size - n) = ops.size by omega] at this
theorem LitAt.atI {B g n : Nat} {lo hi : Int} {cs : Array Value} {v : Value} {w : World} (h : LitAt B g n cs v w) (hs : IntRow2 lo hi cs) (hn : cs.size = n) {z : Int} (h0 : 0 ≤ z) (h1 : z < n) : ∃ b, v = .slice (some ⟨b, 0, none⟩) n n ∧ IntAt2 g lo hi (.pointer (some ⟨b, z.toNat, none⟩)) w :=
  IntLit.at ⟨cs, hn, hs, h⟩ h0 h1
/-- a drawn region that makes new memory only, with guards: what is not wanted yields undef -/
theorem calm_region2 {P : Program} {id n : Nat} {ops : Array Oper} {Qp : Exit → Act → World → Prop} {a : Act} {w : World} (hm : P.follows .mixedOrders = true) (hn : ops.size = n) (Fr : (Nat → Value) → Act) (Q : Nat → Value → World → Prop)
    (dag : (List.range ops.size).all (fun i => ((ops[i]?).map fun o => o.after.all fun e => !(Region.binds .any e) || decide (e.on < i)).getD true) = true)
    (x0 : Nat → Value) (ha : a = Fr x0)
    (qmono : ∀ j v w w', j < n → Q j v w → Below w.heap.size w w' → Q j v w')
    (step : ∀ (i : Nat) (o : Oper) (f : Nat → Bool) (x : Nat → Value) (w1 : World), i < n → ops[i]? = some o → f i = false → (∀ e ∈ o.after, Region.binds .any e = true → f e.on = true) → Below w.heap.size w w1 → (∀ j, j < n → f j = true → Q j (x j) w1) →
      ∀ K : Act → World → Prop, (∀ v w', Q i v w' → Below w1.heap.size w1 w' → K (Fr (setX x i v)) w') → if Region.wanted o (yielded ops (Fr x).tmps) = true then o.wp P (Fr x) w1 K Qp else K ((Fr x).put o.dst undef) w1)
    (fin : ∀ x w1, Below w.heap.size w w1 → (∀ j, j < n → Q j (x j) w1) → Qp .normal (Fr x) w1) : (Code.region id ops true).wp P Qp a w := by
  subst ha
  refine region_inv2 hm (fun f a w1 => ∃ x, a = Fr x ∧ Below w.heap.size w w1 ∧ ∀ j, j < n → f j = true → Q j (x j) w1) dag ?_ ?_ ?_
  · exact ⟨x0, rfl, Below.drew (Below.refl _ _), (fun j _ h => by cases h)⟩
  · intro i o f a w1 ho hf hp hI
    have hin : i < n := by rw [← hn]; exact (Array.getElem?_eq_some_iff.1 ho).1
    obtain ⟨x, rfl, hG, hQ⟩ := hI
    have := step i o f x w1 hin ho hf hp hG hQ (fun a' w' => ∃ v, a' = Fr (setX x i v) ∧ Q i v w' ∧ Below w1.heap.size w1 w') (fun v w' h1 h2 => ⟨v, rfl, h1, h2⟩)
    have hK : ∀ a' w', (∃ v, a' = Fr (setX x i v) ∧ Q i v w' ∧ Below w1.heap.size w1 w') → ∃ x, a' = Fr x ∧ Below w.heap.size w w' ∧ ∀ j, j < n → upd f i j = true → Q j (x j) w' := by
      intro a' w' h
      obtain ⟨v, rfl, hq, hb⟩ := h
      refine ⟨_, rfl, below_trans' hG hb, fun j hj hfj => ?_⟩
      by_cases e2 : j = i
      · subst e2; simpa [setX] using hq
      · rw [upd_ne e2] at hfj
        simpa [setX, e2] using qmono j _ _ _ hj (hQ j hj hfj) hb
    split at this
    · rename_i hw
      rw [if_pos hw]
      exact Oper.wp_mono hK this
    · rename_i hw
      rw [if_neg hw]
      exact hK _ _ this
  · intro f a w1 hf hI
    obtain ⟨x, rfl, hG, hQ⟩ := hI
    exact fin x w1 hG (fun j hj => hQ j hj (hf j (by omega)))
theorem edge_on {after : Array Edge} {f : Nat → Bool} {j : Nat} (h : (after.any fun e => Region.binds .any e && e.on == j) = true) (hp : ∀ e ∈ after, Region.binds .any e = true → f e.on = true) : f j = true := by
  obtain ⟨e, he, h2⟩ := Array.any_eq_true'.1 h
  simp only [Bool.and_eq_true, beq_iff_eq] at h2
  rw [← h2.2]; exact hp e he h2.1
/-! A drawn region of a draw that makes one local struct variable (operation ia) and stores a struct (the value of operation iv) into it (operation is). -/
theorem only_row {w w' : World} {b : Nat} (h : w.grownBy w' (some b)) {a : World} {g : Option Nat} (ha : a.grownBy w g) (hb : a.heap.size ≤ b) : a.grownBy w' g :=
  ⟨h.os.trans ha.os, h.tape.trans ha.tape, h.output.trans ha.output, Nat.le_trans ha.size h.size, fun k hk hne => (h.block k (Nat.lt_of_lt_of_le hk ha.size) (by intro e; injection e; omega)).trans (ha.block k hk hne)⟩
theorem var_region {P : Program} {id n : Nat} {ops : Array Oper} {Qp : Exit → Act → World → Prop} {a : Act} {w : World} (hm : P.follows .mixedOrders = true) (hn : ops.size = n) (W : World) (g m : Nat) (l : List (Nat × Nat)) (Fr : (Nat → Value) → Act) (Q : Nat → Value → Prop)
    (ia is iv : Nat) (T : TypeId) (zero : Array Value) (rowv : Value → Array Value) (h1 : ia ≠ is) (h2 : ia ≠ iv) (h3 : iv ≠ is) (l1 : ia < n) (l2 : is < n) (l3 : iv < n) (hWw : W.heap.size ≤ w.heap.size)
    (pa : predOf ops is ia = true) (pv : predOf ops is iv = true)
    (dag : (List.range ops.size).all (fun i => ((ops[i]?).map fun o => o.after.all fun e => !(Region.binds .any e) || decide (e.on < i)).getD true) = true)
    (x0 : Nat → Value) (ha : a = Fr x0) (hr : Rd W w g m)
    (step : ∀ (i : Nat) (o : Oper) (f : Nat → Bool) (x : Nat → Value) (w1 : World), i < n → i ≠ ia → i ≠ is → ops[i]? = some o → f i = false → (∀ e ∈ o.after, Region.binds .any e = true → f e.on = true) → DrawG W w g m l f w1 → (∀ j, j < n → j ≠ ia → j ≠ is → f j = true → Q j (x j)) →
      ∀ K : Act → World → Prop, (∀ v w', Q i v → w1.grownBy w' (some g) → DrawG W w g m l (upd f i) w' → K (Fr (setX x i v)) w') → if Region.wanted o (yielded ops (Fr x).tmps) = true then o.wp P (Fr x) w1 K Qp else K ((Fr x).put o.dst undef) w1)
    (stepA : ∀ (o : Oper) (x : Nat → Value) (w1 : World), ops[ia]? = some o → ∀ K : Act → World → Prop, K (Fr (setX x ia (.pointer (some ⟨w1.heap.size, 0, none⟩)))) (w1.alloc (.cells zero T)) → if Region.wanted o (yielded ops (Fr x).tmps) = true then o.wp P (Fr x) w1 K Qp else K ((Fr x).put o.dst undef) w1)
    (stepS : ∀ (o : Oper) (x : Nat → Value) (w1 : World) (b : Nat), ops[is]? = some o → Q iv (x iv) → x ia = .pointer (some ⟨b, 0, none⟩) → w1.heap[b]? = some (.cells zero T (0, 0)) → ∀ K : Act → World → Prop, (∀ w', w'.heap[b]? = some (.cells (rowv (x iv)) T (0, 0)) → w1.grownBy w' (some b) → K (Fr x) w') → if Region.wanted o (yielded ops (Fr x).tmps) = true then o.wp P (Fr x) w1 K Qp else K ((Fr x).put o.dst undef) w1)
    (fin : ∀ x w1 b, Rd W w1 g (m + costAll l) → w.grownBy w1 (some g) → (∀ j, j < n → j ≠ ia → j ≠ is → Q j (x j)) → x ia = .pointer (some ⟨b, 0, none⟩) → w.heap.size ≤ b → b ≠ g → w1.heap[b]? = some (.cells (rowv (x iv)) T (0, 0)) → Qp .normal (Fr x) w1) : (Code.region id ops true).wp P Qp a w := by
  subst ha
  have hgw := hr.lt
  refine region_inv2 hm (fun f a w1 => ∃ x, a = Fr x ∧ DrawG W w g m l f w1 ∧ (∀ j, j < n → j ≠ ia → j ≠ is → f j = true → Q j (x j)) ∧ (f is = true → f ia = true ∧ f iv = true) ∧ (f ia = true → ∃ b, x ia = .pointer (some ⟨b, 0, none⟩) ∧ w.heap.size ≤ b ∧ b ≠ g ∧ w1.heap[b]? = some (.cells (if f is = true then rowv (x iv) else zero) T (0, 0)))) dag ?_ ?_ ?_
  · exact ⟨x0, rfl, DrawG.start hr.drew (grown_drew _ _), (fun j _ _ _ h => by cases h), (fun h => by cases h), (fun h => by cases h)⟩
  · intro i o f a w1 ho hf hp hI
    have hin : i < n := by rw [← hn]; exact (Array.getElem?_eq_some_iff.1 ho).1
    obtain ⟨x, rfl, hG, hQ, hS, hV⟩ := hI
    by_cases ea : i = ia
    · subst ea
      have hfs : f is = false := by
        rcases q : f is with _ | _
        · rfl
        · have := (hS q).1; rw [hf] at this; cases this
      have := stepA o x w1 ho (fun a' w' => a' = Fr (setX x i (.pointer (some ⟨w1.heap.size, 0, none⟩))) ∧ w' = w1.alloc (.cells zero T)) ⟨rfl, rfl⟩
      have hK : ∀ a' w', (a' = Fr (setX x i (.pointer (some ⟨w1.heap.size, 0, none⟩))) ∧ w' = w1.alloc (.cells zero T)) → ∃ x, a' = Fr x ∧ DrawG W w g m l (upd f i) w' ∧ (∀ j, j < n → j ≠ i → j ≠ is → upd f i j = true → Q j (x j)) ∧ (upd f i is = true → upd f i i = true ∧ upd f i iv = true) ∧ (upd f i i = true → ∃ b, x i = .pointer (some ⟨b, 0, none⟩) ∧ w.heap.size ≤ b ∧ b ≠ g ∧ w'.heap[b]? = some (.cells (if upd f i is = true then rowv (x iv) else zero) T (0, 0))) := by
        rintro a' w' ⟨rfl, rfl⟩
        refine ⟨_, rfl, hG.alloc _ i, fun j hj ja js hfj => ?_, fun h => ?_, fun _ => ⟨w1.heap.size, by simp [setX], hG.gr.size, ?_, ?_⟩⟩
        · rw [upd_ne ja] at hfj
          simpa [setX, ja] using hQ j hj ja js hfj
        · rw [upd_ne (Ne.symm h1), hfs] at h; cases h
        · have := hG.lt; omega
        · rw [upd_ne (Ne.symm h1), hfs]; exact heap_alloc_new w1 _
      split at this
      · rename_i hw; rw [if_pos hw]; exact Oper.wp_mono hK this
      · rename_i hw; rw [if_neg hw]; exact hK _ _ this
    · by_cases es : i = is
      · subst es
        have fa := pred_mem ho hp pa
        have fv := pred_mem ho hp pv
        obtain ⟨b, hb, b1, b2, b3⟩ := hV fa
        rw [if_neg (by rw [hf]; decide)] at b3
        have hbl := (Array.getElem?_eq_some_iff.1 b3).1
        have := stepS o x w1 b ho (hQ iv l3 (Ne.symm h2) h3 fv) hb b3 (fun a' w' => a' = Fr x ∧ w'.heap[b]? = some (.cells (rowv (x iv)) T (0, 0)) ∧ w1.grownBy w' (some b)) (fun w' h1 h2 => ⟨rfl, h1, h2⟩)
        have hK : ∀ a' w', (a' = Fr x ∧ w'.heap[b]? = some (.cells (rowv (x iv)) T (0, 0)) ∧ w1.grownBy w' (some b)) → ∃ x, a' = Fr x ∧ DrawG W w g m l (upd f i) w' ∧ (∀ j, j < n → j ≠ ia → j ≠ i → upd f i j = true → Q j (x j)) ∧ (upd f i i = true → upd f i ia = true ∧ upd f i iv = true) ∧ (upd f i ia = true → ∃ b, x ia = .pointer (some ⟨b, 0, none⟩) ∧ w.heap.size ≤ b ∧ b ≠ g ∧ w'.heap[b]? = some (.cells (if upd f i i = true then rowv (x iv) else zero) T (0, 0))) := by
          rintro a' w' ⟨rfl, hrow, hg⟩
          refine ⟨x, rfl, ?_, fun j hj ja js hfj => ?_, fun _ => ⟨?_, ?_⟩, fun _ => ⟨b, hb, b1, b2, ?_⟩⟩
          · have hG2 := hG.step i
            obtain ⟨q, hq, hmq⟩ := hG2.rd
            exact ⟨⟨q, hq.grown hg (by intro e; injection e; omega) (by intro k hk; injection hk; omega), hmq⟩, only_row hg hG2.gr b1⟩
          · rw [upd_ne js] at hfj; exact hQ j hj ja js hfj
          · rw [upd_ne h1]; exact fa
          · rw [upd_ne h3]; exact fv
          · rw [upd_self, if_pos rfl]; exact hrow
        split at this
        · rename_i hw; rw [if_pos hw]; exact Oper.wp_mono hK this
        · rename_i hw; rw [if_neg hw]; exact hK _ _ this
      · have := step i o f x w1 hin ea es ho hf hp hG hQ (fun a' w' => ∃ v, a' = Fr (setX x i v) ∧ Q i v ∧ w1.grownBy w' (some g) ∧ DrawG W w g m l (upd f i) w') (fun v w' h1 h2 h3 => ⟨v, rfl, h1, h2, h3⟩)
        have hK : ∀ a' w', (∃ v, a' = Fr (setX x i v) ∧ Q i v ∧ w1.grownBy w' (some g) ∧ DrawG W w g m l (upd f i) w') → ∃ x, a' = Fr x ∧ DrawG W w g m l (upd f i) w' ∧ (∀ j, j < n → j ≠ ia → j ≠ is → upd f i j = true → Q j (x j)) ∧ (upd f i is = true → upd f i ia = true ∧ upd f i iv = true) ∧ (upd f i ia = true → ∃ b, x ia = .pointer (some ⟨b, 0, none⟩) ∧ w.heap.size ≤ b ∧ b ≠ g ∧ w'.heap[b]? = some (.cells (if upd f i is = true then rowv (x iv) else zero) T (0, 0))) := by
          rintro a' w' ⟨v, rfl, hq, hg, hG'⟩
          refine ⟨_, rfl, hG', fun j hj ja js hfj => ?_, fun h => ?_, fun h => ?_⟩
          · by_cases e2 : j = i
            · subst e2; simpa [setX] using hq
            · rw [upd_ne e2] at hfj
              simpa [setX, e2] using hQ j hj ja js hfj
          · rw [upd_ne (Ne.symm es)] at h
            obtain ⟨p, q⟩ := hS h
            refine ⟨by rw [upd_ne (Ne.symm ea)]; exact p, ?_⟩
            by_cases e2 : iv = i
            · subst e2; rw [hf] at q; cases q
            · rw [upd_ne e2]; exact q
          · rw [upd_ne (Ne.symm ea)] at h
            obtain ⟨b, hb, b1, b2, b3⟩ := hV h
            refine ⟨b, by simpa [setX, Ne.symm ea] using hb, b1, b2, ?_⟩
            rw [upd_ne (Ne.symm es)]
            have hk := (hg.block b (Array.getElem?_eq_some_iff.1 b3).1 (by intro e; injection e; omega)).trans b3
            rw [hk]
            by_cases e2 : f is = true
            · have hiv : iv ≠ i := by
                intro e; subst e; have := (hS e2).2; rw [hf] at this; cases this
              rw [if_pos e2, if_pos e2]
              simp [setX, hiv]
            · rw [if_neg e2, if_neg e2]
        split at this
        · rename_i hw; rw [if_pos hw]; exact Oper.wp_mono hK this
        · rename_i hw; rw [if_neg hw]; exact hK _ _ this
  · intro f a w1 hf hI
    obtain ⟨x, rfl, hG, hQ, _, hV⟩ := hI
    have fs := hf is (by omega)
    obtain ⟨b, hb, b1, b2, b3⟩ := hV (hf ia (by omega))
    rw [if_pos fs] at b3
    exact fin x w1 b (hG.rd'.more (Nat.add_le_add_left (cost_all l f) m)) hG.gr (fun j hj ja js => hQ j hj ja js (hf j (by omega))) hb b1 b2 b3
/-- a list of ints in memory -/
def encZ (s : Int) : List Value := [.int .i64 s]
theorem encZ_len (s : Int) : (encZ s).length = 1 := rfl
theorem encZ_one (s : Int) (u : Value) (h : u ∈ encZ s) : u.oneCell' = true := by
  simp [encZ] at h; subst h; rfl
theorem infoZ : (Try.prog.info? 3).map (fun i => (i.zero, i.size, i.bytes)) = some (some (.int .i64 0), 1, 8) := by kernel_rfl
def OwnZ (w : World) (B : Nat) (v : Value) (L : List Int) : Prop := OwnG 3 1 encZ w B v L
theorem app_int {ops : Array Oper} {rest : List Oper} {o : Oper} {a : Act} {Q : Exit → Act → World → Prop} {w : World} (hgd : o.guard = none) (s x : Operand)
    (ho : o.op = .call { callee := .builtin .append, args := #[s, x], argTypes := #[65, 65] }) (B : Nat) (v : Value) (L : List Int) (t : Int) (hs : a.eval s = v)
    (hown : OwnZ w B v L) (hB : B ≤ w.heap.size) (g : Nat) (hgz : w.heap.size = g) (hx : a.eval x = .slice (some ⟨g, 0, none⟩) 1 1) (hl : L.length ≤ 1073741824)
    (h : ∀ v' w', OwnZ w' B v' (L ++ [t]) → w.grownBy w' v.ownBlock → wpList Try.prog ops Q rest (a.put o.dst v') w') : wpList Try.prog ops Q (o :: rest) a (w.alloc (.cells #[.int .i64 t] 3)) :=
  app_gen (enc := encZ) hgd s x 65 ho 3 1 8 _ Try.underlying65 infoZ rfl (by decide) (by decide) encZ_len encZ_one B v L t hs hown hB g hgz hx hl h
theorem ownZ_empty (w : World) (B : Nat) (h : B ≤ w.heap.size) : OwnZ (w.alloc (.cells #[] 3)) B (.slice (some ⟨w.heap.size, 0, none⟩) 0 0) [] := by
  have := World.ownsRow_lit (e := 3) (size := 1) (base := B) w #[] 0 h (by simp) rfl
  exact this
theorem OwnZ.shape {w : World} {B : Nat} {v : Value} {L : List Int} (h : OwnZ w B v L) : ∃ A c, v = .slice A L.length c := by
  obtain ⟨A, c, hv, _⟩ := OwnG.rd h; exact ⟨A, c, hv⟩
theorem rdZ_cell {w : World} {b o : Nat} {LS : List Int} (h : ∀ j u, (LS.flatMap encZ)[j]? = some u → w.cell? ⟨b, o + j, none⟩ = some u) {k : Nat} (hk : k < LS.length) : w.cell? ⟨b, o + k, none⟩ = some (.int .i64 LS[k]) := by
  have := h (k * 1) _ (flat_get encZ_len LS k hk 0 (by omega))
  rwa [Nat.mul_one] at this
theorem rdZ_at {w wr : World} {b o : Nat} {L : List Int} (h : ∀ k (hk : k < L.length), w.cell? ⟨b, o + k, none⟩ = some (.int .i64 L[k])) (hb : b < w.heap.size) (hB : Below w.heap.size w wr) {k : Nat} (hk : k < L.length) : wr.cell? ⟨b, o + k, none⟩ = some (.int .i64 L[k]) := by
  rw [hB.cell (p := ⟨b, o + k, none⟩) hb]; exact h k hk
def GotOwnZ (L : List Int) (w : World) (e : Ending) (w' : World) : Prop := ∃ v : Value, e = .returned v ∧ OwnZ w' w.heap.size v L ∧ Below w.heap.size w w'
theorem full_ints {ops : Array Oper} {rest : List Oper} {o : Oper} {a : Act} {Q : Exit → Act → World → Prop} {w : World} (hg : o.guard = none) (l c : Operand) (hop : o.op = Op.makeSlice 65 l c)
    (n : Nat) (hl : a.eval l = .int .i64 n) (hc : a.eval c = .int .i64 n) (hn : n ≤ 1073741824)
    (hK : ∀ w', OwnZ w' w.heap.size (.slice (some ⟨w.heap.size, 0, none⟩) n n) (List.replicate n 0) → Below w.heap.size w w' → wpList Try.prog ops Q rest (a.put o.dst (.slice (some ⟨w.heap.size, 0, none⟩) n n)) w') : wpList Try.prog ops Q (o :: rest) a w := by
  obtain ⟨i0, hi, hz0, hz1, hz2⟩ := info_parts infoZ
  refine wpList_make_full w hg l c 65 hop w.heap.size 3 i0 _ 1 Try.underlying65 hi hz0 hz1 .i64 .i64 n n n hl hc rfl rfl ?_ ?_ (Nat.le_refl _) ?_
  · rw [hz2]; omega
  · unfold maxLen; omega
  · intro w' h1 h2
    refine hK w' ?_ ((Below.refl _ _).grown h2 (Nat.le_refl _) (fun k hk => by cases hk))
    unfold OwnZ OwnG
    rw [List.length_replicate, flat_rep]
    have e : (madeCells (Value.int .i64 0).cells (n * 1)).toList = (List.replicate n (encZ 0)).flatten := made_one _ n
    rw [← e]; exact h1
def MaxZ (L : List Int) : Prop := ∀ z ∈ L, (Lit.int .i64 z).wf = true
theorem elLZ {H : Type} {en : TypeId × Value → H} {w : World} {spare : Nat → Bool} {held : Bool} : ∀ m cs' x', DataW.trod en Try.prog w 0 spare held m 3 cs' = some x' → ∃ y : Int, cs' = encZ y ∧ (Lit.int .i64 y).wf = true := by
  intro m cs x h
  obtain ⟨s0, e0, _, m0⟩ := DataW.trod_int Try.underlying3 h
  exact ⟨s0, by rw [e0]; rfl, m0⟩
/-- an argument of texts -/
def ArgZL (w : World) (A : Option Addr) (n c : Nat) (L : List Int) : Prop := L.length = n ∧ RdG encZ w (.slice A n c) L ∧ MaxZ L
theorem argZ {H : Type} {en : TypeId × Value → H} {w : World} {spare : Nat → Bool} {held : Bool} {fuel : Nat} {A : Option Addr} {n c : Nat} {cs : List Value} {x : DataW H × List MemPlace} (hcs : cs = [.slice A n c]) (h : DataW.trod en Try.prog w 0 spare held fuel 65 cs = some x) :
    ∃ L : List Int, ArgZL w A n c L :=
  rd_arg 1 (by decide) Try.underlying65 (by kernel_rfl) encZ_len _ elLZ hcs h
theorem make_ints {ops : Array Oper} {rest : List Oper} {o : Oper} {a : Act} {Q : Exit → Act → World → Prop} {w : World} (hg : o.guard = none) (l c : Operand) (hop : o.op = Op.makeSlice 65 l c)
    (n : Nat) (hl : a.eval l = .int .i64 0) (hc : a.eval c = .int .i64 n) (hn : n ≤ 1073741824)
    (hK : ∀ w', OwnZ w' w.heap.size (.slice (some ⟨w.heap.size, 0, none⟩) 0 n) [] → Below w.heap.size w w' → wpList Try.prog ops Q rest (a.put o.dst (.slice (some ⟨w.heap.size, 0, none⟩) 0 n)) w') : wpList Try.prog ops Q (o :: rest) a w := by
  obtain ⟨i0, hi, hz0, hz1, hz2⟩ := info_parts infoZ
  refine wpList_make_own w hg l c 65 hop w.heap.size 3 i0 _ 1 Try.underlying65 hi hz0 hz1 .i64 .i64 n n hl hc rfl ?_ ?_ (Nat.le_refl _) ?_
  · rw [hz2]; omega
  · unfold maxLen; omega
  · intro w' h1 h2
    exact hK w' h1 ((Below.refl _ _).grown h2 (Nat.le_refl _) (fun k hk => by cases hk))
theorem app_ints {ops : Array Oper} {rest : List Oper} {o : Oper} {a : Act} {Q : Exit → Act → World → Prop} {w : World} (hgd : o.guard = none) (s x : Operand)
    (ho : o.op = .call { callee := .builtin .append, args := #[s, x], argTypes := #[65, 65] }) (B : Nat) (v u : Value) (L M : List Int) (hs : a.eval s = v)
    (hown : OwnZ w B v L) (hB : B ≤ w.heap.size) (hx : a.eval x = u) (hrd : RdG encZ w u M) (hl : L.length + M.length ≤ 1073741824)
    (h : ∀ v' w', OwnZ w' B v' (L ++ M) → w.grownBy w' v.ownBlock → wpList Try.prog ops Q rest (a.put o.dst v') w') : wpList Try.prog ops Q (o :: rest) a w :=
  app_all (enc := encZ) hgd s x 65 ho 3 1 8 _ Try.underlying65 infoZ rfl (by decide) (by decide) encZ_len encZ_one B v u L M hs hown hB hx hrd hl h
/-- of a list that is held by one who reads it: it stays where only what is new turns -/
theorem ownZ_rd {w : World} {B : Nat} {v : Value} {L : List Int} (h : OwnZ w B v L) : RdG encZ w v L := OwnG.rd h
/-- a SignKey as a value -/
def aggKy (i : Ky) : Value := .agg #[.int .i64 i.one, .int .i64 i.two, .int .i64 i.exp]
def encKy (i : Ky) : List Value := [.int .i64 i.one, .int .i64 i.two, .int .i64 i.exp]
theorem encKy_len (i : Ky) : (encKy i).length = 3 := rfl
theorem encKy_one (i : Ky) (u : Value) (h : u ∈ encKy i) : u.oneCell' = true := by
  simp [encKy] at h
  rcases h with rfl | rfl | rfl <;> rfl
/-- what comes in: any SignKey -/
def InKy (i : Ky) : Prop := (Lit.int .i64 i.one).wf = true ∧ (Lit.int .i64 i.two).wf = true ∧ (Lit.int .i64 i.exp).wf = true
/-- a short one, as the draws make them -/
def ShKy (i : Ky) : Prop := ShI i.one ∧ ShI i.two ∧ ShI i.exp
set_option maxRecDepth 100000 in
set_option maxHeartbeats 1000000 in
theorem argKy {H : Type} {en : TypeId × Value → H} {w : World} {base b0 : Nat} {spare : Nat → Bool} {held : Bool} {r : Reach} {v : Value} {x : DataW H} {p : List MemPlace} (hv : Value.okWide Try.prog w r b0 40 v) (h : DataW.Trod en Try.prog w base spare held 40 v x p) :
    ∃ (one : Int) (two : Int) (exp : Int), v = .agg #[.int .i64 one, .int .i64 two, .int .i64 exp] ∧ InKy ⟨one, two, exp⟩ := by
  obtain ⟨v0, v1, v2, y0, y1, y2, n, rfl, _, _, h0, h1, h2⟩ := Go.Joins.open_agg3 Try.underlying40 (by kernel_rfl) (by kernel_rfl) hv h
  obtain ⟨one, e0, _, m0⟩ := DataW.trod_int Try.underlying3 h0
  obtain ⟨two, e1, _, m1⟩ := DataW.trod_int Try.underlying3 h1
  obtain ⟨exp, e2, _, m2⟩ := DataW.trod_int Try.underlying3 h2
  simp at e0 e1 e2
  exact ⟨one, two, exp, by rw [e0, e1, e2], m0, m1, m2⟩
theorem toKy_any (one : Int) (two : Int) (exp : Int) (w : World) :
    Calls Try.prog 21 #[.agg #[.int .i64 one, .int .i64 two, .int .i64 exp]] w fun e w' => e = .returned (.agg #[.int .i64 one, .int .i64 two, .int .i64 exp]) ∧ Below w.heap.size w w' := by
  go_enter Try.func21, Try.ntmps21
  go_wp2
  refine bodyPost_ret (v := .agg #[.int .i64 one, .int .i64 two, .int .i64 exp]) (by simp [results, Try.results21, go_sem]) rfl ⟨rfl, ?_⟩
  repeat (first | exact Below.refl _ _ | refine Below.alloc ?_ (by simp <;> omega) _ | refine Below.setCell ?_ (by simp <;> omega) _)
/-- a Signed as a value -/
def aggSg (i : Sg) : Value := .agg #[.string i.text, .int .i64 i.modulus, .int .i64 i.exp, .int .i64 i.sig]
def encSg (i : Sg) : List Value := [.string i.text, .int .i64 i.modulus, .int .i64 i.exp, .int .i64 i.sig]
theorem encSg_len (i : Sg) : (encSg i).length = 4 := rfl
theorem encSg_one (i : Sg) (u : Value) (h : u ∈ encSg i) : u.oneCell' = true := by
  simp [encSg] at h
  rcases h with rfl | rfl | rfl | rfl <;> rfl
/-- what comes in: any Signed -/
def InSg (i : Sg) : Prop := i.text.size ≤ maxLen ∧ (Lit.int .i64 i.modulus).wf = true ∧ (Lit.int .i64 i.exp).wf = true ∧ (Lit.int .i64 i.sig).wf = true
def Sz1Sg (i : Sg) : Prop := i.text.size ≤ 1048576
def FitSg (i : Sg) : Prop := i.text.size ≤ 100000000
/-- a short one, as the draws make them -/
def ShSg (i : Sg) : Prop := ShS i.text ∧ ShI i.modulus ∧ ShI i.exp ∧ ShI i.sig
theorem fitSg_sz {i : Sg} (h : Sz1Sg i) : FitSg i := by
  unfold Sz1Sg at h; unfold FitSg; omega
theorem fitSg_sh {i : Sg} (h : ShSg i) : FitSg i := by
  simp only [ShSg, FitSg, ShS] at h ⊢
  omega
set_option maxRecDepth 100000 in
set_option maxHeartbeats 1000000 in
theorem argSg {H : Type} {en : TypeId × Value → H} {w : World} {base b0 : Nat} {spare : Nat → Bool} {held : Bool} {r : Reach} {v : Value} {x : DataW H} {p : List MemPlace} (hv : Value.okWide Try.prog w r b0 44 v) (h : DataW.Trod en Try.prog w base spare held 44 v x p) :
    ∃ (text : ByteArray) (modulus : Int) (exp : Int) (sig : Int), v = .agg #[.string text, .int .i64 modulus, .int .i64 exp, .int .i64 sig] ∧ InSg ⟨text, modulus, exp, sig⟩ := by
  obtain ⟨v0, v1, v2, v3, y0, y1, y2, y3, n, rfl, _, _, h0, h1, h2, h3⟩ := Go.Joins.open_agg4 Try.underlying44 (by kernel_rfl) (by kernel_rfl) hv h
  obtain ⟨text, e0, _, m0⟩ := DataW.trod_string Try.underlying9 h0
  obtain ⟨modulus, e1, _, m1⟩ := DataW.trod_int Try.underlying3 h1
  obtain ⟨exp, e2, _, m2⟩ := DataW.trod_int Try.underlying3 h2
  obtain ⟨sig, e3, _, m3⟩ := DataW.trod_int Try.underlying3 h3
  simp at e0 e1 e2 e3
  exact ⟨text, modulus, exp, sig, by rw [e0, e1, e2, e3], m0, m1, m2, m3⟩
theorem toSg_any (text : ByteArray) (modulus : Int) (exp : Int) (sig : Int) (w : World) :
    Calls Try.prog 24 #[.agg #[.string text, .int .i64 modulus, .int .i64 exp, .int .i64 sig]] w fun e w' => e = .returned (.agg #[.string text, .int .i64 modulus, .int .i64 exp, .int .i64 sig]) ∧ Below w.heap.size w w' := by
  go_enter Try.func24, Try.ntmps24
  go_wp2
  refine bodyPost_ret (v := .agg #[.string text, .int .i64 modulus, .int .i64 exp, .int .i64 sig]) (by simp [results, Try.results24, go_sem]) rfl ⟨rfl, ?_⟩
  repeat (first | exact Below.refl _ _ | refine Below.alloc ?_ (by simp <;> omega) _ | refine Below.setCell ?_ (by simp <;> omega) _)
theorem eqSg_any (text : ByteArray) (modulus : Int) (exp : Int) (sig : Int) (w : World) :
    Calls Try.prog 22 #[.agg #[.string text, .int .i64 modulus, .int .i64 exp, .int .i64 sig], .agg #[.string text, .int .i64 modulus, .int .i64 exp, .int .i64 sig]] w fun e w' => e = .returned (.bool true) ∧ Below w.heap.size w w' := by
  have q0 := str_same (a := text) (b := text) rfl
  have q1 : (modulus == modulus) = true := by simp
  have q2 : (exp == exp) = true := by simp
  have q3 : (sig == sig) = true := by simp
  go_enter Try.func22, Try.ntmps22
  go_wp2
  go_ret
  refine ⟨rfl, ?_⟩
  repeat (first | exact Below.refl _ _ | refine Below.alloc ?_ (by simp <;> omega) _ | refine Below.setCell ?_ (by simp <;> omega) _)
theorem szSg_any (text : ByteArray) (modulus : Int) (exp : Int) (sig : Int) (left : Int) (w : World) (hm : InSg ⟨text, modulus, exp, sig⟩) (h0 : 0 ≤ left) (h1 : left ≤ 1048576) :
    Calls Try.prog 23 #[.agg #[.string text, .int .i64 modulus, .int .i64 exp, .int .i64 sig], .int .i64 left] w (GotSz (Sz1Sg ⟨text, modulus, exp, sig⟩) left w) := by
  obtain ⟨m0, _⟩ := hm
  unfold maxLen at m0
  simp only at m0
  by_cases a0 : left - (text.size : Int) < 0
  · go_enter Try.func23, Try.ntmps23
    go_wp2
    go_ret
    exact ⟨-1, rfl, by omega, fun h => absurd h (by omega), (Below.refl _ _).alloc (Nat.le_refl _) _⟩
  · go_enter Try.func23, Try.ntmps23
    go_wp2
    go_ret
    exact ⟨_, rfl, by omega, fun h => (by show text.size ≤ _; omega), (Below.refl _ _).alloc (Nat.le_refl _) _⟩
/-- a Turn as a value -/
def aggTn (i : Tn) : Value := .agg #[.int .i64 i.day, .int .i64 i.usd.one, .int .i64 i.usd.two, .int .i64 i.usd.exp]
def encTn (i : Tn) : List Value := [.int .i64 i.day, .int .i64 i.usd.one, .int .i64 i.usd.two, .int .i64 i.usd.exp]
theorem encTn_len (i : Tn) : (encTn i).length = 4 := rfl
theorem encTn_one (i : Tn) (u : Value) (h : u ∈ encTn i) : u.oneCell' = true := by
  simp [encTn] at h
  rcases h with rfl | rfl | rfl | rfl <;> rfl
/-- what comes in: any Turn -/
def InTn (i : Tn) : Prop := (Lit.int .i64 i.day).wf = true ∧ (Lit.int .i64 i.usd.one).wf = true ∧ (Lit.int .i64 i.usd.two).wf = true ∧ (Lit.int .i64 i.usd.exp).wf = true
/-- a short one, as the draws make them -/
def ShTn (i : Tn) : Prop := ShI i.day ∧ ShKy i.usd
set_option maxRecDepth 100000 in
theorem celTn_Ky {H : Type} {en : TypeId × Value → H} {w : World} {base : Nat} {spare : Nat → Bool} {held : Bool} : ∀ m cs' x', DataW.trod en Try.prog w base spare held m 40 cs' = some x' → ∃ y : Ky, cs' = encKy y ∧ InKy y := by
  intro m cs x h
  obtain ⟨xs, n, _, _, hlen, hxl, hf⟩ := DataW.trod_struct Try.underlying40 h
  have hC : Try.prog.cellsOf 40 = 3 := by kernel_rfl
  have ki : Try.prog.cellsOf 3 = 1 := by kernel_rfl
  rw [hC] at hlen
  match cs, hlen, xs, hxl with
  | [c0, c1, c2], _, [y0, y1, y2], _ =>
    have h0 : DataW.trod en Try.prog w base spare held n 3 [c0] = some y0 := by have := hf 0 _ rfl; simpa [ki] using this
    have h1 : DataW.trod en Try.prog w base spare held n 3 [c1] = some y1 := by have := hf 1 _ rfl; simpa [ki] using this
    have h2 : DataW.trod en Try.prog w base spare held n 3 [c2] = some y2 := by have := hf 2 _ rfl; simpa [ki] using this
    obtain ⟨s0, e0, _, m0⟩ := DataW.trod_int Try.underlying3 h0
    simp at e0
    obtain ⟨s1, e1, _, m1⟩ := DataW.trod_int Try.underlying3 h1
    simp at e1
    obtain ⟨s2, e2, _, m2⟩ := DataW.trod_int Try.underlying3 h2
    simp at e2
    exact ⟨⟨s0, s1, s2⟩, by rw [e0, e1, e2]; rfl, m0, m1, m2⟩
theorem toKy_Tn (one : Int) (two : Int) (exp : Int) (w : World) :
    Calls Try.prog 21 #[.agg #[.int .i64 one, .int .i64 two, .int .i64 exp]] w fun e w' => e = .returned (.agg #[.int .i64 one, .int .i64 two, .int .i64 exp]) ∧ ((w.alloc (.cells #[.int .i64 one, .int .i64 two, .int .i64 exp] 40)).alloc (.cells #[.int .i64 one, .int .i64 two, .int .i64 exp] 24)).alloc (.cells #[.int .i64 one, .int .i64 two, .int .i64 exp] 24) = w' := by
  go_enter Try.func21, Try.ntmps21
  go_wp2
  refine bodyPost_ret (v := .agg #[.int .i64 one, .int .i64 two, .int .i64 exp]) (by simp [results, Try.results21, go_sem]) rfl ⟨rfl, rfl⟩
def FitTns (_ : List Tn) : Prop := True
theorem rdTn_cells {w : World} {b o : Nat} {L : List Tn} (h : ∀ j u, (L.flatMap encTn)[j]? = some u → w.cell? ⟨b, o + j, none⟩ = some u) {k : Nat} (hk : k < L.length) :
    w.cell? ⟨b, o + k * 4, none⟩ = some (.int .i64 L[k].day) ∧ w.cell? ⟨b, o + k * 4 + 1, none⟩ = some (.int .i64 L[k].usd.one) ∧ w.cell? ⟨b, o + k * 4 + 2, none⟩ = some (.int .i64 L[k].usd.two) ∧ w.cell? ⟨b, o + k * 4 + 3, none⟩ = some (.int .i64 L[k].usd.exp) := by
  refine ⟨?_, ?_, ?_, ?_⟩
  · exact h (k * 4) _ (flat_get encTn_len L k hk 0 (by omega))
  · have := h (k * 4 + 1) _ (flat_get encTn_len L k hk 1 (by omega)); rw [← Nat.add_assoc] at this; exact this
  · have := h (k * 4 + 2) _ (flat_get encTn_len L k hk 2 (by omega)); rw [← Nat.add_assoc] at this; exact this
  · have := h (k * 4 + 3) _ (flat_get encTn_len L k hk 3 (by omega)); rw [← Nat.add_assoc] at this; exact this
theorem rdTn_at {w wr : World} {b o : Nat} {L : List Tn} (h : ∀ k (hk : k < L.length), w.cell? ⟨b, o + k * 4, none⟩ = some (.int .i64 L[k].day) ∧ w.cell? ⟨b, o + k * 4 + 1, none⟩ = some (.int .i64 L[k].usd.one) ∧ w.cell? ⟨b, o + k * 4 + 2, none⟩ = some (.int .i64 L[k].usd.two) ∧ w.cell? ⟨b, o + k * 4 + 3, none⟩ = some (.int .i64 L[k].usd.exp)) (hb : b < w.heap.size) (hB : Below w.heap.size w wr) {k : Nat} (hk : k < L.length) :
    wr.cell? ⟨b, o + k * 4, none⟩ = some (.int .i64 L[k].day) ∧ wr.cell? ⟨b, o + k * 4 + 1, none⟩ = some (.int .i64 L[k].usd.one) ∧ wr.cell? ⟨b, o + k * 4 + 2, none⟩ = some (.int .i64 L[k].usd.two) ∧ wr.cell? ⟨b, o + k * 4 + 3, none⟩ = some (.int .i64 L[k].usd.exp) := by
  obtain ⟨c0, c1, c2, c3⟩ := h k hk
  exact ⟨by rw [hB.cell (p := ⟨b, o + k * 4, none⟩) hb]; exact c0, by rw [hB.cell (p := ⟨b, o + k * 4 + 1, none⟩) hb]; exact c1, by rw [hB.cell (p := ⟨b, o + k * 4 + 2, none⟩) hb]; exact c2, by rw [hB.cell (p := ⟨b, o + k * 4 + 3, none⟩) hb]; exact c3⟩
/-- a literal of one -/
theorem rdTn_lit1 (w : World) (i : Tn) (t : TypeId) : RdG encTn (w.alloc (.cells #[.int .i64 i.day, .int .i64 i.usd.one, .int .i64 i.usd.two, .int .i64 i.usd.exp] t)) (.slice (some ⟨w.heap.size, 0, none⟩) 1 1) [i] := by
  refine ⟨_, 1, rfl, by simp, by unfold maxLen; omega, .inr ⟨w.heap.size, 0, rfl, by simp, fun j u hj => ?_⟩⟩
  rw [Nat.zero_add, World.cell?_alloc_new]
  simpa [encTn] using hj
end Go.Proofs.Ythniiknhbhoncaa
