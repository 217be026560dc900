/-
  The verifier's own text: RegInv.
-/
import Derived.Test.YtfbkloogbpckkaaRows
import Derived.Test.YtfbkloogbpckkaaGa
import Derived.Orders
import Derived.WalkKit
import Derived.ProofKit
import Derived.Below
import Derived.Lib.Hide
import Derived.Outline
import Derived.BigQuiet
import Derived.Deep.QuietTactic
import Derived.Deep.Draws
import Derived.Laws.OwnMore
import Derived.Laws.Rows
import Derived.WalkSpells
import Derived.Deep.RegionWith
namespace Go.Proofs.Ytfbkloogbpckkaa
open Go.RowKit
set_option linter.unusedVariables false
/-! A region that draws its order, by an invariant: each operation is looked at once, not once in each order. -/
def upd (f : Nat → Bool) (i : Nat) : Nat → Bool := fun j => if j = i then true else f j
theorem upd_self (f : Nat → Bool) (i : Nat) : upd f i i = true := by simp [upd]
theorem upd_ne {f : Nat → Bool} {i j : Nat} (h : j ≠ i) : upd f i j = f j := by simp [upd, h]
def listF (listed : Array Bool) : Nat → Bool := fun j => listed.getD j false
theorem listF_set {listed : Array Bool} {i : Nat} (hi : i < listed.size) : listF (listed.setIfInBounds i true) = upd (listF listed) i := by
  funext j
  unfold listF upd
  by_cases e : j = i
  · subst e; simp [hi]
  · simp only [e, if_false]
    simp only [Array.getD_eq_getD_getElem?]
    rw [Array.getElem?_setIfInBounds_ne (by omega)]
def unl (n : Nat) (listed : Array Bool) : Nat := (List.range n).countP fun i => !listF listed i
theorem countP_lt {p q : Nat → Bool} {i : Nat} : ∀ (l : List Nat), (∀ x ∈ l, q x = true → p x = true) → i ∈ l → p i = true → q i = false → l.countP q < l.countP p := by
  intro l
  induction l with
  | nil => intro _ h; simp at h
  | cons x l ih =>
    intro h hm hp hq
    have hle : l.countP q ≤ l.countP p := List.countP_mono_left fun y hy => h y (by simp [hy])
    rcases List.mem_cons.1 hm with rfl | hm
    · rw [List.countP_cons_of_pos hp, List.countP_cons_of_neg (by simp [hq])]; omega
    · have := ih (fun y hy => h y (by simp [hy])) hm hp hq
      rcases hqx : q x with _ | _
      · rw [List.countP_cons_of_neg (p := q) (by simp [hqx])]
        have : l.countP p ≤ (x :: l).countP p := by rw [List.countP_cons]; omega
        omega
      · rw [List.countP_cons_of_pos hqx, List.countP_cons_of_pos (h x (by simp) hqx)]; omega
theorem any_inv {P : Program} {md : Region.Mode} {ops : Array Oper} {Q : Exit → Act → World → Prop} (I : (Nat → Bool) → Act → World → Prop)
    (dag : (List.range ops.size).all (fun i => ((ops[i]?).map fun o => o.after.all fun e => decide (e.on < i)).getD true) = true)
    (step : ∀ (i : Nat) (o : Oper) (f : Nat → Bool) (a : Act) (w : World), ops[i]? = some o → f i = false → (∀ e ∈ o.after, Region.binds md e = true → f e.on = true) → I f a w → wpOp P ops Q i (fun a' w' => I (upd f i) a' w') a w)
    (fin : ∀ f a w, (∀ i, i < ops.size → f i = true) → I f a w → Q .normal a w) :
    ∀ (fuel : Nat) (listed : Array Bool) (a : Act) (w : World), listed.size = ops.size → unl ops.size listed ≤ fuel → I (listF listed) a w → wpAny P md ops Q fuel listed a w := by
  have hall : ∀ listed : Array Bool, listed.size = ops.size → Region.ready md ops listed = [] → ∀ i, i < ops.size → listF listed i = true := by
    intro listed hsz hr i
    induction i using Nat.strongRecOn with
    | ind i ih =>
      intro hi
      rcases hq : listF listed i with _ | _
      · exfalso
        have hmem : i ∈ Region.ready md ops listed := by
          rw [mem_ready]
          refine ⟨?_, ops[i], Array.getElem?_eq_getElem hi, fun e he hb => ?_⟩
          · unfold listF at hq
            simp only [Array.getD_eq_getD_getElem?] at hq ⊢
            rw [Array.getElem?_eq_getElem (by omega)] at hq ⊢
            exact hq
          · have h1 := List.all_eq_true.1 dag i (List.mem_range.2 hi)
            rw [Array.getElem?_eq_getElem hi] at h1
            simp only [Option.map_some, Option.getD_some] at h1
            have h2 := Array.all_eq_true_iff_forall_mem.1 h1 e he
            have h3 : e.on < i := of_decide_eq_true h2
            exact ih e.on h3 (by omega)
        rw [hr] at hmem; cases hmem
      · rfl
  intro fuel
  induction fuel with
  | zero =>
    intro listed a w hsz hu hI
    have ha : ∀ i, i < ops.size → listF listed i = true := by
      intro i hi
      have h0 : unl ops.size listed = 0 := by omega
      unfold unl at h0
      have := List.countP_eq_zero.1 h0 i (List.mem_range.2 hi)
      simpa using this
    refine ⟨?_, fin _ a w ha hI⟩
    rcases hr : Region.ready md ops listed with _ | ⟨i, r⟩
    · rfl
    · have hm : i ∈ Region.ready md ops listed := by rw [hr]; simp
      rw [mem_ready] at hm
      obtain ⟨h0, o, ho, _⟩ := hm
      have hi : i < ops.size := (Array.getElem?_eq_some_iff.1 ho).1
      have h1 := ha i hi
      unfold listF at h1
      simp only [Array.getD_eq_getD_getElem?] at h0 h1
      rw [Array.getElem?_eq_getElem (by omega)] at h0 h1
      simp only [Option.getD_some] at h0 h1
      rw [h0] at h1; cases h1
  | succ fuel ih =>
    intro listed a w hsz hu hI
    refine ⟨fun hr => fin _ a w (hall listed hsz hr) hI, fun i hi => ?_⟩
    have hm := mem_ready.1 hi
    obtain ⟨h0, o, ho, he⟩ := hm
    have hlt : i < ops.size := (Array.getElem?_eq_some_iff.1 ho).1
    have hfi : listF listed i = false := by
      unfold listF
      simp only [Array.getD_eq_getD_getElem?] at h0 ⊢
      rw [Array.getElem?_eq_getElem (by omega)] at h0 ⊢
      exact h0
    refine wpOp_mono (fun a' w' h => ?_) (step i o (listF listed) a w ho hfi he hI)
    refine ih _ a' w' (by simpa using hsz) ?_ (by rw [listF_set (by omega)]; exact h)
    have : unl ops.size (listed.setIfInBounds i true) < unl ops.size listed := by
      unfold unl
      rw [listF_set (by omega)]
      refine countP_lt (i := i) _ (fun x _ hx => ?_) (List.mem_range.2 hlt) (by simp [hfi]) (by simp [upd])
      unfold upd at hx
      split at hx
      · simp at hx
      · exact hx
    omega
theorem region_inv {P : Program} {id : Nat} {ops : Array Oper} {Q : Exit → Act → World → Prop} {a : Act} {w : World} (hm : P.follows .mixedOrders = true) (I : (Nat → Bool) → Act → World → Prop)
    (dag : (List.range ops.size).all (fun i => ((ops[i]?).map fun o => o.after.all fun e => decide (e.on < i)).getD true) = true)
    (start : I (fun _ => false) a w.drew)
    (step : ∀ (i : Nat) (o : Oper) (f : Nat → Bool) (a : Act) (w : World), ops[i]? = some o → f i = false → (∀ e ∈ o.after, Region.binds .any e = true → f e.on = true) → I f a w → if Region.wanted o (yielded ops a.tmps) = true then o.wp P a w (fun a' w' => I (upd f i) a' w') Q else I (upd f i) (a.put o.dst undef) w)
    (fin : ∀ f a w, (∀ i, i < ops.size → f i = true) → I f a w → Q .normal a w) : (Code.region id ops true).wp P Q a w := by
  refine wp_region_any hm (any_inv I dag (fun i o f a w ho hf he hI => ?_) fin ops.size _ a _ (by simp) ?_ ?_)
  · have := step i o f a w ho hf he hI
    unfold wpOp
    simp only [ho]
    split
    · rename_i hw; rw [if_pos hw] at this; exact .inl this
    · rename_i hw; rw [if_neg hw] at this; exact this
  · unfold unl
    have := List.countP_le_length (p := fun i => !listF (Array.replicate ops.size false) i) (l := List.range ops.size)
    simpa using this
  · have e : listF (Array.replicate ops.size false) = fun _ => false := by
      funext j; unfold listF
      by_cases hj : j < ops.size <;> simp [hj]
    rw [e]; exact start
end Go.Proofs.Ytfbkloogbpckkaa
