/-
  The verifier's own text: AscMath ActMath QuietW CopyG TAc LAc EAc MAc.
-/
import Derived.Test.YtacapigdfabiiaaRows
import Derived.Test.YtacapigdfabiiaaGa
import Derived.Test.YtacapigdfabiiaaHA
import Derived.Test.YtacapigdfabiiaaGc
import Derived.Test.YtacapigdfabiiaaGb
import Derived.Test.YtacapigdfabiiaaGq
import Derived.Test.YtacapigdfabiiaaGn
import Derived.Lib.SmallJoins
import Derived.BigFrame
import Derived.Deep.RegionHeld3
import Derived.Test.YtacapigdfabiiaaGz
import Derived.WalkKit
import Derived.ProofKit
import Derived.Below
import Derived.Lib.Hide
import Derived.Outline
import Derived.BigQuiet
import Derived.Deep.QuietTactic
import Derived.Deep.Draws
import Derived.Laws.OwnMore
import Derived.Laws.Rows
import Derived.WalkSpells
import Derived.Deep.RegionWith
namespace Go.Proofs.Ytacapigdfabiiaa
open Go.RowKit
set_option linter.unusedVariables false
/-! Lists that ascend by a strict order of keys, and insertion into them. -/
/-- a strict order: never itself, and through -/
structure Ord {α : Type} (lt : α → α → Bool) : Prop where
  irr : ∀ a, lt a a = false
  tra : ∀ a b c, lt a b = true → lt b c = true → lt a c = true
def ascB {α : Type} (lt : α → α → Bool) (L : List α) : Bool := decide (L.Pairwise fun a b => lt a b = true)
theorem ascB_iff {α : Type} {lt : α → α → Bool} {L : List α} : ascB lt L = true ↔ L.Pairwise fun a b => lt a b = true := by
  unfold ascB; exact decide_eq_true_iff
theorem asc_take {α : Type} {lt : α → α → Bool} {L : List α} (h : ascB lt L = true) (k : Nat) : ascB lt (L.take k) = true := ascB_iff.2 ((ascB_iff.1 h).sublist (List.take_sublist k L))
theorem asc_drop {α : Type} {lt : α → α → Bool} {L : List α} (h : ascB lt L = true) (k : Nat) : ascB lt (L.drop k) = true := ascB_iff.2 ((ascB_iff.1 h).sublist (List.drop_sublist k L))
theorem asc_get {α : Type} {lt : α → α → Bool} {L : List α} (h : ascB lt L = true) {j k : Nat} (hj : j < k) (hk : k < L.length) : lt (L[j]'(by omega)) L[k] = true :=
  List.pairwise_iff_getElem.1 (ascB_iff.1 h) j k (by omega) hk hj
theorem asc_next {α : Type} {lt : α → α → Bool} (o : Ord lt) {L : List α} {k : Nat} (hk : k < L.length) (h : ascB lt (L.take k) = true) (ha : ∀ h0 : 0 < k, lt (L[k - 1]'(by omega)) L[k] = true) : ascB lt (L.take (k + 1)) = true := by
  have e : L.take (k + 1) = L.take k ++ [L[k]] := List.take_succ_eq_append_getElem hk
  rw [e, ascB_iff, List.pairwise_append]
  refine ⟨ascB_iff.1 h, by simp, fun a m b mb => ?_⟩
  have hb : b = L[k] := by simpa using mb
  subst hb
  obtain ⟨j, hj, rfl⟩ := List.getElem_of_mem m
  have hjk : j < k := by rw [List.length_take] at hj; omega
  rw [List.getElem_take]
  by_cases q : j = k - 1
  · subst q; exact ha (by omega)
  · have h1 := asc_get h (j := j) (k := k - 1) (by omega) (by rw [List.length_take]; omega)
    rw [List.getElem_take, List.getElem_take] at h1
    exact o.tra _ _ _ h1 (ha (by omega))
theorem asc_bad {α : Type} {lt : α → α → Bool} {L : List α} {j k : Nat} (hj : j < k) (hk : k < L.length) (h : lt (L[j]'(by omega)) L[k] = false) : ascB lt L = false := by
  rcases q : ascB lt L with _ | _
  · rfl
  · rw [asc_get q hj hk] at h; cases h
theorem asc_twice {α : Type} {lt : α → α → Bool} (o : Ord lt) (a : α) (L : List α) : ascB lt (a :: a :: L) = false := by
  rcases q : ascB lt (a :: a :: L) with _ | _
  · rfl
  · have := List.rel_of_pairwise_cons (ascB_iff.1 q) (a' := a) (by simp)
    rw [o.irr] at this; cases this
theorem asc_tail {α : Type} {lt : α → α → Bool} {a : α} {L : List α} (h : ascB lt (a :: L) = true) : ascB lt L = true := ascB_iff.2 (ascB_iff.1 h).tail
/-- where an element belongs -/
def plc {α : Type} (lt : α → α → Bool) : List α → α → Nat
  | [], _ => 0
  | x :: L, a => if lt x a = true then plc lt L a + 1 else 0
theorem plc_le {α : Type} (lt : α → α → Bool) : ∀ (L : List α) (a : α), plc lt L a ≤ L.length := by
  intro L
  induction L with
  | nil => intro a; simp [plc]
  | cons x L ih => intro a; have := ih a; unfold plc; split <;> simp <;> omega
theorem plc_is {α : Type} {lt : α → α → Bool} : ∀ {L : List α} {a : α} {k : Nat} (_ : k ≤ L.length) (_ : ∀ j (hj : j < L.length), j < k → lt L[j] a = true) (_ : ∀ h : k < L.length, lt L[k] a = false), plc lt L a = k := by
  intro L
  induction L with
  | nil => intro a k hk _ _; simp at hk; subst hk; rfl
  | cons x L ih =>
    intro a k hk h1 h2
    cases k with
    | zero =>
      have := h2 (by simp)
      simp only [List.getElem_cons_zero] at this
      simp [plc, this]
    | succ k =>
      have h0 := h1 0 (by simp) (by omega)
      simp only [List.getElem_cons_zero] at h0
      have := ih (a := a) (k := k) (by simpa using hk) (fun j hj hjk => by have := h1 (j + 1) (by simpa using hj) (by omega); simpa using this) (fun h => by have := h2 (by simpa using h); simpa using this)
      simp [plc, h0, this]
theorem plc_lt {α : Type} {lt : α → α → Bool} : ∀ {L : List α} {a : α} {j : Nat} (hj : j < plc lt L a), lt (L[j]'(Nat.lt_of_lt_of_le hj (plc_le lt L a))) a = true := by
  intro L
  induction L with
  | nil => intro a j hj; simp [plc] at hj
  | cons x L ih =>
    intro a j hj
    by_cases h : lt x a = true
    · cases j with
      | zero => simpa using h
      | succ j =>
        have hj' : j < plc lt L a := by simp [plc, h] at hj; exact hj
        simpa using ih hj'
    · simp [plc, h] at hj
theorem plc_ge {α : Type} {lt : α → α → Bool} : ∀ {L : List α} {a : α} (h : plc lt L a < L.length), lt L[plc lt L a] a = false := by
  intro L
  induction L with
  | nil => intro a h; simp at h
  | cons x L ih =>
    intro a h
    by_cases hx : lt x a = true
    · have e : plc lt (x :: L) a = plc lt L a + 1 := by simp [plc, hx]
      have h' : plc lt L a < L.length := by rw [e] at h; simpa using h
      simp only [e, List.getElem_cons_succ]
      exact ih h'
    · have e : plc lt (x :: L) a = 0 := by simp [plc, hx]
      simp only [e, List.getElem_cons_zero]
      simpa using hx
/-- with one more in its place -/
def insG {α : Type} (lt : α → α → Bool) (L : List α) (a : α) : List α := L.take (plc lt L a) ++ a :: L.drop (plc lt L a)
theorem insG_len {α : Type} (lt : α → α → Bool) (L : List α) (a : α) : (insG lt L a).length = L.length + 1 := by
  have := plc_le lt L a
  unfold insG; rw [List.length_append, List.length_take, List.length_cons, List.length_drop]; omega
theorem insG_at {α : Type} (lt : α → α → Bool) (L : List α) (a : α) : (insG lt L a)[plc lt L a]'(by rw [insG_len]; have := plc_le lt L a; omega) = a := by
  have := plc_le lt L a
  unfold insG
  rw [List.getElem_append_right (by rw [List.length_take]; omega)]
  have e : plc lt L a - min (plc lt L a) L.length = 0 := by omega
  simp [e]
theorem insG_low {α : Type} (lt : α → α → Bool) (L : List α) (a : α) {j : Nat} (hj : j < plc lt L a) : (insG lt L a)[j]'(by rw [insG_len]; have := plc_le lt L a; omega) = L[j]'(by have := plc_le lt L a; omega) := by
  have := plc_le lt L a
  unfold insG
  rw [List.getElem_append_left (by rw [List.length_take]; omega), List.getElem_take]
theorem insG_take {α : Type} (lt : α → α → Bool) (L : List α) (a : α) : (insG lt L a).take (plc lt L a) = L.take (plc lt L a) := by
  have := plc_le lt L a
  unfold insG; rw [List.take_append_of_le_length (by rw [List.length_take]; omega), List.take_take, Nat.min_self]
theorem insG_drop {α : Type} (lt : α → α → Bool) (L : List α) (a : α) : (insG lt L a).drop (plc lt L a + 1) = L.drop (plc lt L a) := by
  have := plc_le lt L a
  unfold insG
  have e : (L.take (plc lt L a)).length = plc lt L a := by rw [List.length_take]; omega
  rw [List.drop_append, e, List.drop_eq_nil_of_le (by omega)]
  simp
theorem insG_back {α : Type} (lt : α → α → Bool) (L : List α) (a : α) : (insG lt L a).take (plc lt L a) ++ (insG lt L a).drop (plc lt L a + 1) = L := by
  rw [insG_take, insG_drop, List.take_append_drop]
theorem insG_plc {α : Type} {lt : α → α → Bool} (o : Ord lt) (L : List α) (a : α) : plc lt (insG lt L a) a = plc lt L a := by
  have := plc_le lt L a
  refine plc_is (by rw [insG_len]; omega) (fun j hj hjk => ?_) (fun h => ?_)
  · rw [insG_low lt L a hjk]; exact plc_lt hjk
  · rw [insG_at]; exact o.irr a
theorem insG_again {α : Type} {lt : α → α → Bool} (o : Ord lt) (L : List α) (a : α) : ascB lt (insG lt (insG lt L a) a) = false := by
  have hp := plc_le lt L a
  have hi := insG_len lt L a
  have h1 := insG_plc o L a
  have h2 := insG_len lt (insG lt L a) a
  refine asc_bad (j := plc lt L a) (k := plc lt L a + 1) (by omega) (by omega) ?_
  have e1 : (insG lt (insG lt L a) a)[plc lt L a]'(by omega) = a := by
    have := insG_at lt (insG lt L a) a
    simp only [h1] at this; exact this
  have e2 : (insG lt (insG lt L a) a)[plc lt L a + 1]'(by omega) = a := by
    have h3 := insG_drop lt (insG lt L a) a
    rw [h1] at h3
    have h4 := congrArg (fun l : List α => l[0]?) h3
    simp only [List.getElem?_drop, Nat.add_zero] at h4
    rw [List.getElem?_eq_getElem (by omega), List.getElem?_eq_getElem (by omega), insG_at] at h4
    exact Option.some.inj h4
  rw [e1, e2]; exact o.irr a
theorem insG_mem {α : Type} {lt : α → α → Bool} {L : List α} {a x : α} : x ∈ insG lt L a ↔ x ∈ L ∨ x = a := by
  unfold insG
  rw [List.mem_append, List.mem_cons]
  constructor
  · rintro (h | h | h)
    · exact .inl (List.mem_of_mem_take h)
    · exact .inr h
    · exact .inl (List.mem_of_mem_drop h)
  · rintro (h | h)
    · rw [← List.take_append_drop (plc lt L a) L, List.mem_append] at h
      rcases h with h | h
      · exact .inl h
      · exact .inr (.inr h)
    · exact .inr (.inl h)
theorem less_tra {a b c : List UInt8} (h : Op.bytesLess a b = true) (h' : Op.bytesLess b c = true) : Op.bytesLess a c = true := by
  rw [bytesLess_eq] at h h' ⊢
  exact decide_eq_true (List.lt_trans (of_decide_eq_true h) (of_decide_eq_true h'))
/-- an actor -/
structure Ac where
  name : ByteArray
  feed : ByteArray
  sign : Int
instance acDec : DecidableEq Ac := fun a b => if h : a.name = b.name ∧ a.feed = b.feed ∧ a.sign = b.sign then isTrue (by obtain ⟨a0, a1, a2⟩ := a; obtain ⟨b0, b1, b2⟩ := b; obtain ⟨h0, h1, h2⟩ := h; simp only at h0 h1 h2; subst h0; subst h1; subst h2; rfl) else isFalse (by rintro rfl; exact h ⟨rfl, rfl, rfl⟩)
def acB (a : Ac) : Bool := wordB a.name.data.toList && wordB a.feed.data.toList && decide (0 ≤ a.sign ∧ a.sign ≤ 1000000000)
/-- by names -/
def acL (a b : Ac) : Bool := Op.bytesLess a.name.data.toList b.name.data.toList
theorem acL_ord : Ord acL := ⟨fun a => by
  unfold acL
  rcases q : Op.bytesLess a.name.data.toList a.name.data.toList with _ | _
  · rfl
  · exact absurd rfl (less_asymm q).2, fun a b c h k => less_tra h k⟩
/-- at most eight actors, all valid, names ascend, with different feeds -/
def acsB (L : List Ac) : Bool := decide (L.length ≤ 8) && L.all acB && ascB acL L && decide ((L.map Ac.feed).Nodup)
theorem acsB_of {L : List Ac} (h : acsB L = true) : L.length ≤ 8 ∧ (∀ a ∈ L, acB a = true) ∧ ascB acL L = true ∧ (L.map Ac.feed).Nodup := by
  unfold acsB at h; simp only [Bool.and_eq_true, decide_eq_true_eq, List.all_eq_true] at h; exact ⟨h.1.1.1, h.1.1.2, h.1.2, h.2⟩
theorem acsB_mk {L : List Ac} (a : L.length ≤ 8) (b : ∀ i ∈ L, acB i = true) (c : ascB acL L = true) (d : (L.map Ac.feed).Nodup) : acsB L = true := by
  unfold acsB; simp only [Bool.and_eq_true, decide_eq_true_eq, List.all_eq_true]; exact ⟨⟨⟨a, b⟩, c⟩, d⟩
theorem acsB_not {L : List Ac} (h : acsB L = true → False) : acsB L = false := by
  rcases q : acsB L with _ | _
  · rfl
  · exact (h q).elim
theorem acsB_item {L : List Ac} {k : Nat} (h : k < L.length) (b : acB L[k] = false) : acsB L = false := acsB_not fun q => by
  have := (acsB_of q).2.1 _ (List.getElem_mem h); rw [b] at this; cases this
theorem acsB_asc {L : List Ac} {k : Nat} (h0 : 0 < k) (h : k < L.length) (b : acL (L[k - 1]'(by omega)) L[k] = false) : acsB L = false := acsB_not fun q => by
  have := asc_get (acsB_of q).2.2.1 (j := k - 1) (by omega) h; rw [b] at this; cases this
theorem acsB_feed {L : List Ac} {j k : Nat} (hj : j < k) (h : k < L.length) (e : L[j].feed = L[k].feed) : acsB L = false := acsB_not fun q => by
  have := (List.pairwise_iff_getElem.1 (acsB_of q).2.2.2) j k (by rw [List.length_map]; omega) (by rw [List.length_map]; omega) hj
  rw [List.getElem_map, List.getElem_map] at this
  exact absurd e this
theorem acsB_nil : acsB [] = true := by decide
theorem acsB_len {L : List Ac} (h : 8 < L.length) : acsB L = false := acsB_not fun q => by have := (acsB_of q).1; omega
/-- the first k are well -/
def PreA (L : List Ac) (k : Nat) : Prop := (∀ i ∈ L.take k, acB i = true) ∧ ascB acL (L.take k) = true ∧ ((L.take k).map Ac.feed).Nodup
theorem preA_zero (L : List Ac) : PreA L 0 := ⟨by simp, by simp [ascB], by simp⟩
theorem preA_next {L : List Ac} {k : Nat} (h : k < L.length) (p : PreA L k) (b : acB L[k] = true) (a : ∀ h0 : 0 < k, acL (L[k - 1]'(by omega)) L[k] = true) (d : ∀ j (hj : j < k), (L[j]'(by omega)).feed ≠ L[k].feed) : PreA L (k + 1) := by
  have e : L.take (k + 1) = L.take k ++ [L[k]] := List.take_succ_eq_append_getElem h
  refine ⟨fun i m => ?_, asc_next acL_ord h p.2.1 a, ?_⟩
  · rw [e] at m
    rcases List.mem_append.1 m with m | m
    · exact p.1 i m
    · have : i = L[k] := by simpa using m
      rw [this]; exact b
  · rw [e, List.map_append, List.nodup_append]
    refine ⟨p.2.2, by simp, fun a ha c hc => ?_⟩
    have hc' : c = L[k].feed := by simpa using hc
    obtain ⟨i, hi, rfl⟩ := List.mem_map.1 ha
    obtain ⟨j, hj, rfl⟩ := List.getElem_of_mem hi
    have hjk : j < k := by rw [List.length_take] at hj; omega
    rw [List.getElem_take, hc']
    exact d j hjk
theorem preA_end {L : List Ac} {k : Nat} (h : L.length ≤ k) (p : PreA L k) : decide ((L.length : Int) ≤ 8) = acsB L := by
  unfold PreA at p
  rw [List.take_of_length_le h] at p
  by_cases a : L.length ≤ 8
  · rw [acsB_mk a p.1 p.2.1 p.2.2]; exact decide_eq_true (by omega)
  · rw [acsB_len (by omega)]; exact decide_eq_false (by omega)
theorem acsB_tail {a : Ac} {L : List Ac} (h : acsB (a :: L) = true) : acsB L = true := by
  obtain ⟨h1, h2, h3, h4⟩ := acsB_of h
  rw [List.map_cons] at h4
  exact acsB_mk (by simp at h1; omega) (fun i m => h2 i (List.mem_cons_of_mem _ m)) (asc_tail h3) (List.nodup_cons.1 h4).2
theorem acsB_twice (a : Ac) (L : List Ac) : acsB (a :: a :: L) = false := acsB_not fun q => by
  have := (acsB_of q).2.2.1; rw [asc_twice acL_ord] at this; cases this
/-- the number of the actor with a name -/
def acAt : List Ac → ByteArray → Nat → Int
  | [], _, _ => -1
  | a :: L, n, k => if a.name = n then (k : Int) else acAt L n (k + 1)
def acN (L : List Ac) (n : ByteArray) : Int := if acsB L = true then acAt L n 0 else -1
theorem acAt_drop {L : List Ac} {n : ByteArray} {k : Nat} (h : k < L.length) : acAt (L.drop k) n k = if L[k].name = n then (k : Int) else acAt (L.drop (k + 1)) n (k + 1) := by
  rw [List.drop_eq_getElem_cons h]; rfl
theorem acAt_end {L : List Ac} {n : ByteArray} {k : Nat} (h : L.length ≤ k) : acAt (L.drop k) n k = -1 := by rw [List.drop_eq_nil_of_le h]; rfl
theorem acAt_is {n : ByteArray} : ∀ {L : List Ac} {q k : Nat} (hk : k < L.length) (_ : ∀ j (hj : j < k), (L[j]'(by omega)).name ≠ n) (_ : L[k].name = n), acAt L n q = ((q + k : Nat) : Int) := by
  intro L
  induction L with
  | nil => intro q k hk; simp at hk
  | cons a L ih =>
    intro q k hk h e
    cases k with
    | zero => simp only [List.getElem_cons_zero] at e; simp [acAt, e]
    | succ k =>
      have h0 := h 0 (by omega)
      simp only [List.getElem_cons_zero] at h0
      have := ih (q := q + 1) (k := k) (by simpa using hk) (fun j hj => by have := h (j + 1) (by omega); simpa using this) (by simpa using e)
      simp only [acAt, h0, if_false, this]
      congr 1; omega
theorem acAt_lo : ∀ (L : List Ac) (n : ByteArray) (q : Nat), -1 ≤ acAt L n q ∧ acAt L n q < (q + L.length : Nat) := by
  intro L
  induction L with
  | nil => intro n q; simp [acAt]; omega
  | cons a L ih =>
    intro n q
    have := ih n (q + 1)
    simp only [acAt, List.length_cons]
    split <;> omega
theorem acAt_none : ∀ {L : List Ac} {n : ByteArray} {q : Nat} (_ : ∀ a ∈ L, a.name ≠ n), acAt L n q = -1 := by
  intro L
  induction L with
  | nil => intro n q _; rfl
  | cons a L ih => intro n q h; simp only [acAt, h a (by simp), if_false]; exact ih (fun b m => h b (List.mem_cons_of_mem _ m))
theorem acN_in {L : List Ac} {n : ByteArray} (h : acsB L = true) : acN L n = acAt L n 0 := by simp [acN, h]
theorem acN_out {L : List Ac} {n : ByteArray} (h : acsB L = false) : acN L n = -1 := by simp [acN, h]
/-- with one more in its place by names; whether -/
def adA (L : List Ac) (a : Ac) : List Ac × Bool := if acsB L = true then (if acsB (insG acL L a) = true then (insG acL L a, true) else (L, false)) else ([], false)
theorem adA_out {L : List Ac} {a : Ac} (h : acsB L = false) : adA L a = ([], false) := by simp [adA, h]
theorem adA_no {L : List Ac} {a : Ac} (h : acsB L = true) (k : acsB (insG acL L a) = false) : adA L a = (L, false) := by simp [adA, h, k]
theorem adA_yes {L : List Ac} {a : Ac} (h : acsB L = true) (k : acsB (insG acL L a) = true) : adA L a = (insG acL L a, true) := by simp [adA, h, k]
theorem adA_ok {L : List Ac} {a : Ac} (h : (adA L a).2 = true) : acsB L = true ∧ acsB (insG acL L a) = true ∧ (adA L a).1 = insG acL L a := by
  unfold adA at h ⊢
  by_cases h1 : acsB L = true
  · by_cases h2 : acsB (insG acL L a) = true
    · simp [h1, h2]
    · simp [h1, h2] at h
  · simp [h1] at h
theorem adA_len (L : List Ac) (a : Ac) : (adA L a).1.length ≤ 8 ∨ acsB L = true ∧ (adA L a).1 = L := by
  unfold adA
  split
  · split
    · rename_i h; exact .inl (acsB_of h).1
    · rename_i h _; exact .inr ⟨h, rfl⟩
  · exact .inl (by simp)
theorem adA_valid {L : List Ac} {a : Ac} (h : acsB L = true) : acsB (adA L a).1 = true := by
  unfold adA
  rw [if_pos h]
  split
  · rename_i k; exact k
  · exact h
theorem adA_8 (L : List Ac) (a : Ac) : (adA L a).1.length ≤ 8 := by
  rcases adA_len L a with h | ⟨h, e⟩
  · exact h
  · rw [e]; exact (acsB_of h).1
theorem name_of_lt {a b : Ac} (h : acL a b = true) : a.name ≠ b.name := fun e => by
  unfold acL at h; rw [e] at h; exact absurd rfl (less_asymm h).2
/-- the added one is found where it belongs, and cannot be added again -/
theorem adA_at {L : List Ac} {a : Ac} (h : acsB (insG acL L a) = true) : acN (insG acL L a) a.name = (plc acL L a : Int) := by
  have hp := plc_le acL L a
  rw [acN_in h, acAt_is (k := plc acL L a) (by rw [insG_len]; omega) (fun j hj => ?_) (by rw [insG_at])]
  · simp
  · rw [insG_low acL L a hj]; exact name_of_lt (plc_lt hj)
theorem adA_again {L : List Ac} {a : Ac} (h : acsB (insG acL L a) = true) : adA (insG acL L a) a = (insG acL L a, false) := by
  refine adA_no h (acsB_not fun q => ?_)
  have := (acsB_of q).2.2.1; rw [insG_again acL_ord] at this; cases this
/-- the name for a new actor -/
def cutA (w : ByteArray) : ByteArray := w.extract 0 (min w.size 7)
def digA (w : ByteArray) (d : Nat) : ByteArray := cutA w ++ ⟨#[UInt8.ofNat d]⟩
def nfD (L : List Ac) (w : ByteArray) : Nat → Nat → ByteArray
  | 0, _ => ⟨#[]⟩
  | f + 1, d => if acN L (digA w d) < 0 then digA w d else nfD L w f (d + 1)
def nfA (L : List Ac) (w : ByteArray) : ByteArray := if acsB L = true ∧ wordB w.data.toList = true then (if acN L w < 0 then w else nfD L w 8 50) else ⟨#[]⟩
theorem acsB_drop {L : List Ac} (h : acsB L = true) : acsB (L.drop 1) = true := by
  cases L with
  | nil => exact h
  | cons a L => exact acsB_tail h
theorem acsB_more {L : List Ac} (h : 0 < L.length) : acsB ([L[0]] ++ L) = false := by
  cases L with
  | nil => simp at h
  | cons a L => exact acsB_twice a L
theorem acN_range (L : List Ac) (n : ByteArray) : -1 ≤ acN L n := by
  unfold acN; split
  · exact (acAt_lo L n 0).1
  · exact Int.le_refl _
theorem acN_small (L : List Ac) (n : ByteArray) (h : L.length ≤ 9) : acN L n ≤ 100 := by
  unfold acN; split
  · have := (acAt_lo L n 0).2; omega
  · omega
theorem digA_word {w : ByteArray} {d : Nat} (h : wordB w.data.toList = true) (d0 : 50 ≤ d) (d1 : d ≤ 57) : wordB (digA w d).data.toList = true := by
  have hl := word_len h
  rw [blen] at hl
  have e : (digA w d).data.toList = w.data.toList.take (min w.size 7) ++ [UInt8.ofNat d] := by simp [digA, cutA]
  have hu : (UInt8.ofNat d).toNat = d := by rw [UInt8.toNat_ofNat']; omega
  unfold wordB at h ⊢
  simp only [Bool.and_eq_true, List.all_eq_true, decide_eq_true_eq] at h ⊢
  obtain ⟨⟨_, h2⟩, h3⟩ := h
  rw [e]
  refine ⟨⟨?_, ?_⟩, fun c m => ?_⟩
  · rw [List.length_append, List.length_take, blen]; simp; omega
  · obtain ⟨m, hm⟩ : ∃ m, min w.size 7 = m + 1 := ⟨min w.size 7 - 1, by omega⟩
    rw [hm]
    cases q : w.data.toList with
    | nil => have := blen w; rw [q] at this; simp at this; omega
    | cons c l => rw [q] at h2; simpa using h2
  · rcases List.mem_append.1 m with m | m
    · exact h3 c (List.mem_of_mem_take m)
    · have : c = UInt8.ofNat d := by simpa using m
      rw [this]; unfold wcB; rw [hu]
      have : digI (d : Int) = true := by unfold digI; simp; omega
      rw [this]; rfl
theorem nfD_got {L : List Ac} {w : ByteArray} : ∀ (f d : Nat), (nfD L w f d).size ≠ 0 → 50 ≤ d → d + f ≤ 58 → ∃ q, 50 ≤ q ∧ q ≤ 57 ∧ nfD L w f d = digA w q ∧ acN L (digA w q) < 0 := by
  intro f
  induction f with
  | zero => intro d h; exact absurd rfl h
  | succ f ih =>
    intro d h h0 h1
    by_cases q : acN L (digA w d) < 0
    · exact ⟨d, h0, by omega, by simp [nfD, q], q⟩
    · have e : nfD L w (f + 1) d = nfD L w f (d + 1) := by simp [nfD, q]
      rw [e] at h ⊢
      exact ih (d + 1) h (by omega) (by omega)
/-- a new name is a valid word that nobody has; and a word that nobody has stays -/
theorem nfA_law {L : List Ac} {w : ByteArray} (h : (nfA L w).size ≠ 0) : wordB (nfA L w).data.toList = true ∧ acN L (nfA L w) = -1 ∧ (0 ≤ acN L w ∨ nfA L w = w) := by
  have hr := acN_range L
  unfold nfA at h ⊢
  by_cases hc : acsB L = true ∧ wordB w.data.toList = true
  · rw [if_pos hc] at h ⊢
    by_cases hn : acN L w < 0
    · rw [if_pos hn] at h ⊢
      exact ⟨hc.2, by have := hr w; omega, .inr rfl⟩
    · rw [if_neg hn] at h ⊢
      obtain ⟨q, q0, q1, e, hq⟩ := nfD_got 8 50 h (by omega) (by omega)
      rw [e]
      exact ⟨digA_word hc.2 q0 q1, by have := hr (digA w q); omega, .inl (by omega)⟩
  · rw [if_neg hc] at h
    exact absurd rfl h
theorem nfA_size (L : List Ac) (w : ByteArray) : (nfA L w).size ≤ 8 := by
  by_cases h : (nfA L w).size = 0
  · omega
  · have := (word_len (nfA_law h).1).2
    rw [blen] at this; exact this
theorem sword_q (s : ByteArray) (w : World) (n : Nat) (b : Bool) (h : wordB s.data.toList = b) (hs : s.size ≤ maxLen) :
    Calls Try.prog 52 #[.string s] (w.drewN n) fun e w'' => e = .returned (.bool b) ∧ ∃ m, w'' = w.drewN m := by
  rw [← h]; exact quiet_eq (sword_any s _ hs)
theorem word_q (s : ByteArray) (w : World) (n : Nat) (b : Bool) (h : wordB s.data.toList = b) (hs : s.size ≤ maxLen) :
    Calls Try.prog 34 #[.string s] (w.drewN n) fun e w'' => e = .returned (.bool b) ∧ ∃ m, w'' = w.drewN m := by
  rw [← h]; exact quiet_eq (word_any s _ hs)
theorem l1In_q (z lo hi : Int) (w : World) (n : Nat) (b : Bool) (h : inB z lo hi = b) :
    Calls Try.prog 46 #[.int .i64 z, .int .i64 lo, .int .i64 hi] (w.drewN n) fun e w'' => e = .returned (.bool b) ∧ ∃ m, w'' = w.drewN m := by
  rw [← h]; exact quiet_eq (l1In_any z lo hi _)
/-! The copy 'append(append(append([]T{}, s[:k]...), x), s[k:]...)': what each order of its operations has. -/
theorem own0_lit {α : Type} (ty : TypeId) (size : Nat) (enc : α → List Value) (w : World) (B : Nat) (h : B ≤ w.heap.size) : OwnG ty size enc (w.alloc (.cells #[] ty)) B (.slice (some ⟨w.heap.size, 0, none⟩) 0 0) ([] : List α) := by
  have := World.ownsRow_lit (e := ty) (size := size) (base := B) w #[] 0 h (by simp) (by simp)
  exact this
theorem own0_a {α : Type} {ty : TypeId} {size : Nat} {enc : α → List Value} (w4 : World) (B : Nat) (hB : B ≤ w4.heap.size) : OwnG ty size enc (w4.alloc (.cells #[] ty)).drew B (.slice (some ⟨w4.heap.size, 0, none⟩) 0 0) ([] : List α) :=
  OwnG.grown (own0_lit ty size enc w4 B hB) (Below.drew (Below.refl _ _))
theorem own0_b {α : Type} {ty : TypeId} {size : Nat} {enc : α → List Value} (w4 : World) (B : Nat) (hB : B ≤ w4.heap.size) (o : Obj) : OwnG ty size enc ((w4.alloc (.cells #[] ty)).alloc o).drew B (.slice (some ⟨w4.heap.size, 0, none⟩) 0 0) ([] : List α) :=
  OwnG.grown (own0_lit ty size enc w4 B hB) (Below.drew ((Below.refl _ _).alloc (Nat.le_refl _) _))
theorem own0_c {α : Type} {ty : TypeId} {size : Nat} {enc : α → List Value} (w4 : World) (B : Nat) (hB : B ≤ w4.heap.size) (o : Obj) : OwnG ty size enc ((w4.alloc o).alloc (.cells #[] ty)).drew B (.slice (some ⟨w4.heap.size + 1, 0, none⟩) 0 0) ([] : List α) := by
  have := OwnG.grown (own0_lit ty size enc (w4.alloc o) B (by simp; omega)) (Below.drew (Below.refl _ _))
  have e : (w4.alloc o).heap.size = w4.heap.size + 1 := by simp
  rw [e] at this; exact this
theorem belN_1 (w4 : World) (o : Obj) : Below w4.heap.size w4 (w4.alloc o).drew := Below.drew ((Below.refl _ _).alloc (Nat.le_refl _) _)
theorem belN_2 (w4 : World) (o o' : Obj) : Below w4.heap.size w4 ((w4.alloc o).alloc o').drew := Below.drew (((Below.refl _ _).alloc (Nat.le_refl _) _).alloc (by simp) _)
theorem rd1_lit {α : Type} {enc : α → List Value} {size : Nat} (he : ∀ x, (enc x).length = size) (w : World) (i : α) (cs : Array Value) (hcs : cs = (enc i).toArray) (t : TypeId) : RdG enc (w.alloc (.cells cs t)) (.slice (some ⟨w.heap.size, 0, none⟩) 1 1) [i] := by
  subst hcs
  refine ⟨_, 1, rfl, by simp, by unfold maxLen; omega, .inr ⟨w.heap.size, 0, rfl, by simp, fun j u hj => ?_⟩⟩
  rw [Nat.zero_add, World.cell?_alloc_new]
  simpa using hj
theorem lit1_b {α : Type} {enc : α → List Value} {size : Nat} (he : ∀ x, (enc x).length = size) (w4 : World) (o : Obj) (i : α) (cs : Array Value) (hcs : cs = (enc i).toArray) (t : TypeId) : RdG enc ((w4.alloc o).alloc (.cells cs t)).drew (.slice (some ⟨w4.heap.size + 1, 0, none⟩) 1 1) [i] := by
  have := (rd1_lit he (w4.alloc o) i cs hcs t).below (Below.drew (Below.refl _ _))
  have e : (w4.alloc o).heap.size = w4.heap.size + 1 := by simp
  rw [e] at this; exact this
theorem lit1_c {α : Type} {enc : α → List Value} {size : Nat} (he : ∀ x, (enc x).length = size) (w4 : World) (o : Obj) (i : α) (cs : Array Value) (hcs : cs = (enc i).toArray) (t : TypeId) : RdG enc ((w4.alloc (.cells cs t)).alloc o).drew (.slice (some ⟨w4.heap.size, 0, none⟩) 1 1) [i] :=
  (rd1_lit he w4 i cs hcs t).below (Below.drew ((Below.refl _ _).alloc (Nat.le_refl _) _))
theorem rdG_kept {α : Type} {enc : α → List Value} {w w' : World} {g q : Nat} {i : α} (h : RdG enc w (.slice (some ⟨q, 0, none⟩) 1 1) [i]) (hg : w.grownBy w' (some g)) (hne : q ≠ g) : RdG enc w' (.slice (some ⟨q, 0, none⟩) 1 1) [i] := by
  obtain ⟨b, o, c, hv, _, hc, hb, h4⟩ := h.some (by simp)
  obtain ⟨⟨rfl, rfl⟩, rfl⟩ : (q = b ∧ 0 = o) ∧ 1 = c := by simpa using hv
  exact ⟨_, 1, rfl, by simp, hc, .inr ⟨q, 0, rfl, Nat.lt_of_lt_of_le hb hg.size, fun j u hj => by rw [kept_cell hg q _ hne hb]; exact h4 j u hj⟩⟩
/-- the rest behind place k, wherever an empty one points -/
theorem rdG_restA {α : Type} {enc : α → List Value} {size : Nat} (he : ∀ x, (enc x).length = size) {w : World} {b o c : Nat} {L : List α} (h : RdG enc w (.slice (some ⟨b, o, none⟩) L.length c) L) (k : Nat) (hk : k ≤ L.length) (A' : Option Addr) (n' c' : Nat)
    (hA : k < L.length → A' = some ⟨b, o + k * size, none⟩) (hn' : n' = L.length - k) (hc : n' ≤ c') (hc' : c' ≤ c) : RdG enc w (.slice A' n' c') (L.drop k) := by
  by_cases hlt : k < L.length
  · rw [hA hlt]
    exact rdG_drop he h (by intro e; rw [e] at hlt; simp at hlt) k hlt _ _ _ rfl hn' hc hc'
  · obtain ⟨_, c2, hv, _, hm, _⟩ := h
    obtain ⟨_, rfl⟩ : _ ∧ c = c2 := by simpa using hv
    have e : n' = 0 := by omega
    subst e
    exact rdG_none k (by omega) (by omega)
theorem rdG_nil0 {α : Type} {enc : α → List Value} {w : World} {A : Option Addr} {c : Nat} (hc : c ≤ maxLen) : RdG enc w (.slice A 0 c) ([] : List α) := ⟨A, c, rfl, by simp, hc, .inl rfl⟩
theorem own_below' {α : Type} {ty : TypeId} {size : Nat} {enc : α → List Value} {W w w' : World} {v : Value} {L : List α} (hown : OwnG ty size enc w W.heap.size v L) (hb : Below W.heap.size W w) (hg : w.grownBy w' v.ownBlock) : Below W.heap.size W w' :=
  hb.grown hg hb.size (fun k hk => hown.ge k hk)
/-- a Actor as a value -/
def aggAc (i : Ac) : Value := .agg #[.string i.name, .string i.feed, .int .i64 i.sign]
def encAc (i : Ac) : List Value := [.string i.name, .string i.feed, .int .i64 i.sign]
theorem encAc_len (i : Ac) : (encAc i).length = 3 := rfl
theorem encAc_one (i : Ac) (u : Value) (h : u ∈ encAc i) : u.oneCell' = true := by
  simp [encAc] at h
  rcases h with rfl | rfl | rfl <;> rfl
/-- what comes in: any Actor -/
def InAc (i : Ac) : Prop := i.name.size ≤ maxLen ∧ i.feed.size ≤ maxLen ∧ (Lit.int .i64 i.sign).wf = true
def Sz1Ac (i : Ac) : Prop := i.name.size ≤ 1048576 ∧ i.feed.size ≤ 1048576
def FitAc (i : Ac) : Prop := i.name.size ≤ 100000000 ∧ i.feed.size ≤ 100000000
/-- a short one, as the draws make them -/
def ShAc (i : Ac) : Prop := ShS i.name ∧ ShS i.feed ∧ ShI i.sign
theorem fitAc_sz {i : Ac} (h : Sz1Ac i) : FitAc i := by
  unfold Sz1Ac at h; unfold FitAc; omega
theorem fitAc_sh {i : Ac} (h : ShAc i) : FitAc i := by
  simp only [ShAc, FitAc, ShS] at h ⊢
  omega
set_option maxRecDepth 100000 in
set_option maxHeartbeats 1000000 in
theorem argAc {H : Type} {en : TypeId × Value → H} {w : World} {base b0 : Nat} {spare : Nat → Bool} {held : Bool} {r : Reach} {v : Value} {x : DataW H} {p : List MemPlace} (hv : Value.okWide Try.prog w r b0 50 v) (h : DataW.Trod en Try.prog w base spare held 50 v x p) :
    ∃ (name : ByteArray) (feed : ByteArray) (sign : Int), v = .agg #[.string name, .string feed, .int .i64 sign] ∧ InAc ⟨name, feed, sign⟩ := by
  obtain ⟨v0, v1, v2, y0, y1, y2, n, rfl, _, _, h0, h1, h2⟩ := Go.Joins.open_agg3 Try.underlying50 (by kernel_rfl) (by kernel_rfl) hv h
  obtain ⟨name, e0, _, m0⟩ := DataW.trod_string Try.underlying9 h0
  obtain ⟨feed, e1, _, m1⟩ := DataW.trod_string Try.underlying9 h1
  obtain ⟨sign, e2, _, m2⟩ := DataW.trod_int Try.underlying3 h2
  simp at e0 e1 e2
  exact ⟨name, feed, sign, by rw [e0, e1, e2], m0, m1, m2⟩
theorem toAc_any (name : ByteArray) (feed : ByteArray) (sign : Int) (w : World) :
    Calls Try.prog 39 #[.agg #[.string name, .string feed, .int .i64 sign]] w fun e w' => e = .returned (.agg #[.string name, .string feed, .int .i64 sign]) ∧ Below w.heap.size w w' := by
  go_enter Try.func39, Try.ntmps39
  go_wp2
  refine bodyPost_ret (v := .agg #[.string name, .string feed, .int .i64 sign]) (by simp [results, Try.results39, go_sem]) rfl ⟨rfl, ?_⟩
  repeat (first | exact Below.refl _ _ | refine Below.alloc ?_ (by simp <;> omega) _ | refine Below.setCell ?_ (by simp <;> omega) _)
theorem eqAc_any (name : ByteArray) (feed : ByteArray) (sign : Int) (w : World) :
    Calls Try.prog 59 #[.agg #[.string name, .string feed, .int .i64 sign], .agg #[.string name, .string feed, .int .i64 sign]] w fun e w' => e = .returned (.bool true) ∧ Below w.heap.size w w' := by
  have q0 := str_same (a := name) (b := name) rfl
  have q1 := str_same (a := feed) (b := feed) rfl
  have q2 : (sign == sign) = true := by simp
  go_enter Try.func59, Try.ntmps59
  go_wp2
  go_ret
  refine ⟨rfl, ?_⟩
  repeat (first | exact Below.refl _ _ | refine Below.alloc ?_ (by simp <;> omega) _ | refine Below.setCell ?_ (by simp <;> omega) _)
theorem szAc_any (name : ByteArray) (feed : ByteArray) (sign : Int) (left : Int) (w : World) (hm : InAc ⟨name, feed, sign⟩) (h0 : 0 ≤ left) (h1 : left ≤ 1048576) :
    Calls Try.prog 38 #[.agg #[.string name, .string feed, .int .i64 sign], .int .i64 left] w (GotSz (Sz1Ac ⟨name, feed, sign⟩) left w) := by
  obtain ⟨m0, m1, _⟩ := hm
  unfold maxLen at m0 m1
  simp only at m0 m1
  by_cases a0 : left - (name.size : Int) < 0
  · go_enter Try.func38, Try.ntmps38
    go_wp2
    go_ret
    exact ⟨-1, rfl, by omega, fun h => absurd h (by omega), (Below.refl _ _).alloc (Nat.le_refl _) _⟩
  · by_cases a1 : left - (name.size : Int) - (feed.size : Int) < 0
    · go_enter Try.func38, Try.ntmps38
      go_wp2
      go_ret
      exact ⟨-1, rfl, by omega, fun h => absurd h (by omega), (Below.refl _ _).alloc (Nat.le_refl _) _⟩
    · go_enter Try.func38, Try.ntmps38
      go_wp2
      go_ret
      exact ⟨_, rfl, by omega, fun h => ⟨by show name.size ≤ _; omega, by show feed.size ≤ _; omega⟩, (Below.refl _ _).alloc (Nat.le_refl _) _⟩
def FitAcs (L : List Ac) : Prop := ∀ e ∈ L, FitAc e
theorem rdAc_cells {w : World} {b o : Nat} {L : List Ac} (h : ∀ j u, (L.flatMap encAc)[j]? = some u → w.cell? ⟨b, o + j, none⟩ = some u) {k : Nat} (hk : k < L.length) :
    w.cell? ⟨b, o + k * 3, none⟩ = some (.string L[k].name) ∧ w.cell? ⟨b, o + k * 3 + 1, none⟩ = some (.string L[k].feed) ∧ w.cell? ⟨b, o + k * 3 + 2, none⟩ = some (.int .i64 L[k].sign) := by
  refine ⟨?_, ?_, ?_⟩
  · exact h (k * 3) _ (flat_get encAc_len L k hk 0 (by omega))
  · have := h (k * 3 + 1) _ (flat_get encAc_len L k hk 1 (by omega)); rw [← Nat.add_assoc] at this; exact this
  · have := h (k * 3 + 2) _ (flat_get encAc_len L k hk 2 (by omega)); rw [← Nat.add_assoc] at this; exact this
theorem rdAc_at {w wr : World} {b o : Nat} {L : List Ac} (h : ∀ k (hk : k < L.length), w.cell? ⟨b, o + k * 3, none⟩ = some (.string L[k].name) ∧ w.cell? ⟨b, o + k * 3 + 1, none⟩ = some (.string L[k].feed) ∧ w.cell? ⟨b, o + k * 3 + 2, none⟩ = some (.int .i64 L[k].sign)) (hb : b < w.heap.size) (hB : Below w.heap.size w wr) {k : Nat} (hk : k < L.length) :
    wr.cell? ⟨b, o + k * 3, none⟩ = some (.string L[k].name) ∧ wr.cell? ⟨b, o + k * 3 + 1, none⟩ = some (.string L[k].feed) ∧ wr.cell? ⟨b, o + k * 3 + 2, none⟩ = some (.int .i64 L[k].sign) := by
  obtain ⟨c0, c1, c2⟩ := h k hk
  exact ⟨by rw [hB.cell (p := ⟨b, o + k * 3, none⟩) hb]; exact c0, by rw [hB.cell (p := ⟨b, o + k * 3 + 1, none⟩) hb]; exact c1, by rw [hB.cell (p := ⟨b, o + k * 3 + 2, none⟩) hb]; exact c2⟩
theorem infoAc : (Try.prog.info? 33).map (fun i => (i.zero, i.size, i.bytes)) = some (some (.agg #[.string ⟨#[]⟩, .string ⟨#[]⟩, .int .i64 0]), 3, 40) := by kernel_rfl
def OwnAc (w : World) (B : Nat) (v : Value) (L : List Ac) : Prop := OwnG 33 3 encAc w B v L
def GotOwnAc (L : List Ac) (w : World) (e : Ending) (w' : World) : Prop := ∃ v : Value, e = .returned v ∧ OwnAc w' w.heap.size v L ∧ Below w.heap.size w w'
theorem OwnAc.shape {w : World} {B : Nat} {v : Value} {L : List Ac} (h : OwnAc w B v L) : ∃ A c, v = .slice A L.length c := by
  obtain ⟨A, c, hv, _⟩ := OwnG.rd h; exact ⟨A, c, hv⟩
/-- a literal of one -/
theorem rdAc_lit1 (w : World) (i : Ac) (t : TypeId) : RdG encAc (w.alloc (.cells #[.string i.name, .string i.feed, .int .i64 i.sign] t)) (.slice (some ⟨w.heap.size, 0, none⟩) 1 1) [i] := by
  refine ⟨_, 1, rfl, by simp, by unfold maxLen; omega, .inr ⟨w.heap.size, 0, rfl, by simp, fun j u hj => ?_⟩⟩
  rw [Nat.zero_add, World.cell?_alloc_new]
  simpa [encAc] using hj
theorem ownAc_none (w : World) (B : Nat) (h : B ≤ w.heap.size) : OwnAc (w.alloc (.cells #[] 33)) B (.slice (some ⟨w.heap.size, 0, none⟩) 0 0) [] := by
  have := World.ownsRow_lit (e := 33) (size := 3) (base := B) w #[] 0 h (by simp) rfl
  exact this
theorem ownAc_lit1 (w : World) (B : Nat) (i : Ac) (h : B ≤ w.heap.size) : OwnAc (w.alloc (.cells #[.string i.name, .string i.feed, .int .i64 i.sign] 33)) B (.slice (some ⟨w.heap.size, 0, none⟩) 1 1) [i] := by
  have := World.ownsRow_lit (e := 33) (size := 3) (base := B) w #[.string i.name, .string i.feed, .int .i64 i.sign] 1 h (by simp [maxLen]) rfl
  exact this
theorem ownAc_lits (w : World) (B : Nat) (L : List Ac) (cs : Array Value) (hcs : cs = (L.flatMap encAc).toArray) (h : B ≤ w.heap.size) (hl : L.length ≤ 1000) : OwnAc (w.alloc (.cells cs 33)) B (.slice (some ⟨w.heap.size, 0, none⟩) L.length L.length) L := by
  subst hcs
  have := World.ownsRow_lit (e := 33) (size := 3) (base := B) w (L.flatMap encAc).toArray L.length h (by unfold maxLen; omega) (by simpa using flat_len encAc_len L)
  exact this
theorem mkAc {ops : Array Oper} {rest : List Oper} {o : Oper} {a : Act} {Q : Exit → Act → World → Prop} {w : World} (hg : o.guard = none) (l c : Operand) (hop : o.op = Op.makeSlice 29 l c)
    (n : Nat) (hl : a.eval l = .int .i64 0) (hc : a.eval c = .int .i64 n) (hn : n ≤ 1073741824)
    (hK : ∀ w', OwnAc w' w.heap.size (.slice (some ⟨w.heap.size, 0, none⟩) 0 n) [] → Below w.heap.size w w' → wpList Try.prog ops Q rest (a.put o.dst (.slice (some ⟨w.heap.size, 0, none⟩) 0 n)) w') : wpList Try.prog ops Q (o :: rest) a w := by
  obtain ⟨i0, hi, hz0, hz1, hz2⟩ := info_parts infoAc
  refine wpList_make_own w hg l c 29 hop w.heap.size 33 i0 _ 3 Try.underlying29 hi hz0 hz1 .i64 .i64 n n hl hc rfl ?_ ?_ (Nat.le_refl _) ?_
  · rw [hz2]; omega
  · unfold maxLen; omega
  · intro w' h1 h2
    exact hK w' h1 ((Below.refl _ _).grown h2 (Nat.le_refl _) (fun k hk => by cases hk))
theorem fullAc {ops : Array Oper} {rest : List Oper} {o : Oper} {a : Act} {Q : Exit → Act → World → Prop} {w : World} (hg : o.guard = none) (l c : Operand) (hop : o.op = Op.makeSlice 29 l c)
    (n : Nat) (hl : a.eval l = .int .i64 n) (hc : a.eval c = .int .i64 n) (hn : n ≤ 1073741824)
    (hK : ∀ w', OwnAc w' w.heap.size (.slice (some ⟨w.heap.size, 0, none⟩) n n) (List.replicate n ⟨⟨#[]⟩, ⟨#[]⟩, 0⟩) → Below w.heap.size w w' → wpList Try.prog ops Q rest (a.put o.dst (.slice (some ⟨w.heap.size, 0, none⟩) n n)) w') : wpList Try.prog ops Q (o :: rest) a w := by
  obtain ⟨i0, hi, hz0, hz1, hz2⟩ := info_parts infoAc
  refine wpList_make_full w hg l c 29 hop w.heap.size 33 i0 _ 3 Try.underlying29 hi hz0 hz1 .i64 .i64 n n n hl hc rfl rfl ?_ ?_ (Nat.le_refl _) ?_
  · rw [hz2]; omega
  · unfold maxLen; omega
  · intro w' h1 h2
    refine hK w' ?_ ((Below.refl _ _).grown h2 (Nat.le_refl _) (fun k hk => by cases hk))
    unfold OwnAc OwnG
    rw [List.length_replicate, flat_rep]
    have e : (madeCells (Value.agg #[.string ⟨#[]⟩, .string ⟨#[]⟩, .int .i64 0]).cells (n * 3)).toList = (List.replicate n (encAc ⟨⟨#[]⟩, ⟨#[]⟩, 0⟩)).flatten := made3 _ _ _ n
    rw [← e]; exact h1
/-- an append of one -/
theorem appAc {ops : Array Oper} {rest : List Oper} {o : Oper} {a : Act} {Q : Exit → Act → World → Prop} {w : World} (hgd : o.guard = none) (s x : Operand)
    (ho : o.op = .call { callee := .builtin .append, args := #[s, x], argTypes := #[29, 29] }) (B : Nat) (v : Value) (L : List Ac) (name : ByteArray) (feed : ByteArray) (sign : Int) (hs : a.eval s = v)
    (hown : OwnAc w B v L) (hB : B ≤ w.heap.size) (g : Nat) (hgz : w.heap.size = g) (hx : a.eval x = .slice (some ⟨g, 0, none⟩) 1 1) (hl : L.length ≤ 1073741824)
    (h : ∀ v' w', OwnAc w' B v' (L ++ [⟨name, feed, sign⟩]) → w.grownBy w' v.ownBlock → wpList Try.prog ops Q rest (a.put o.dst v') w') : wpList Try.prog ops Q (o :: rest) a (w.alloc (.cells #[.string name, .string feed, .int .i64 sign] 33)) :=
  app_gen (enc := encAc) hgd s x 29 ho 33 3 40 _ Try.underlying29 infoAc rfl (by decide) (by decide) encAc_len encAc_one B v L ⟨name, feed, sign⟩ hs hown hB g hgz hx hl h
/-- an append of a list -/
theorem appsAc {ops : Array Oper} {rest : List Oper} {o : Oper} {a : Act} {Q : Exit → Act → World → Prop} {w : World} (hgd : o.guard = none) (s x : Operand)
    (ho : o.op = .call { callee := .builtin .append, args := #[s, x], argTypes := #[29, 29] }) (B : Nat) (v u : Value) (L M : List Ac) (hs : a.eval s = v)
    (hown : OwnAc w B v L) (hB : B ≤ w.heap.size) (hx : a.eval x = u) (hrd : RdG encAc w u M) (hl : L.length + M.length ≤ 1073741824)
    (h : ∀ v' w', OwnAc w' B v' (L ++ M) → w.grownBy w' v.ownBlock → wpList Try.prog ops Q rest (a.put o.dst v') w') : wpList Try.prog ops Q (o :: rest) a w :=
  app_all (enc := encAc) hgd s x 29 ho 33 3 40 _ Try.underlying29 infoAc rfl (by decide) (by decide) encAc_len encAc_one B v u L M hs hown hB hx hrd hl h
theorem stepAc {ops : Array Oper} {o : Oper} {a : Act} {K : Act → World → Prop} {Q : Exit → Act → World → Prop} {E : Prop} {w : World} (hgd : o.guard = none) (s x : Operand)
    (ho : o.op = .call { callee := .builtin .append, args := #[s, x], argTypes := #[29, 29] }) (B : Nat) (v u : Value) (L M : List Ac) (hs : a.eval s = v)
    (hown : OwnAc w B v L) (hB : B ≤ w.heap.size) (hx : a.eval x = u) (hrd : RdG encAc w u M) (hl : L.length + M.length ≤ 1073741824)
    (h : ∀ v' w', OwnAc w' B v' (L ++ M) → w.grownBy w' v.ownBlock → K (a.put o.dst v') w') : if Region.wanted o (yielded ops a.tmps) = true then Oper.wp Try.prog o a w K Q else E :=
  step_all (enc := encAc) hgd s x 29 ho 33 3 40 _ Try.underlying29 infoAc rfl (by decide) (by decide) encAc_len encAc_one B v u L M hs hown hB hx hrd hl h
/-- the same appends behind a guard that says yes -/
theorem appsAcG {ops : Array Oper} {rest : List Oper} {o : Oper} {a : Act} {Q : Exit → Act → World → Prop} {w : World} (hw : Region.wanted o (yielded ops a.tmps) = true) (s x : Operand)
    (ho : o.op = .call { callee := .builtin .append, args := #[s, x], argTypes := #[29, 29] }) (B : Nat) (v u : Value) (L M : List Ac) (hs : a.eval s = v)
    (hown : OwnAc w B v L) (hB : B ≤ w.heap.size) (hx : a.eval x = u) (hrd : RdG encAc w u M) (hl : L.length + M.length ≤ 1073741824)
    (h : ∀ v' w', OwnAc w' B v' (L ++ M) → w.grownBy w' v.ownBlock → wpList Try.prog ops Q rest (a.put o.dst v') w') : wpList Try.prog ops Q (o :: rest) a w :=
  Go.BigFrame.wpList_want hw fun _ hK => wp_app_all (enc := encAc) s x 29 ho 33 3 40 _ Try.underlying29 infoAc rfl (by decide) (by decide) encAc_len encAc_one B v u L M hs hown hB hx hrd hl fun v' w' h2 h3 => hK _ _ (h v' w' h2 h3)
theorem stepAcG {ops : Array Oper} {o : Oper} {a : Act} {K : Act → World → Prop} {Q : Exit → Act → World → Prop} {E : Prop} {w : World} (hw : Region.wanted o (yielded ops a.tmps) = true) (s x : Operand)
    (ho : o.op = .call { callee := .builtin .append, args := #[s, x], argTypes := #[29, 29] }) (B : Nat) (v u : Value) (L M : List Ac) (hs : a.eval s = v)
    (hown : OwnAc w B v L) (hB : B ≤ w.heap.size) (hx : a.eval x = u) (hrd : RdG encAc w u M) (hl : L.length + M.length ≤ 1073741824)
    (h : ∀ v' w', OwnAc w' B v' (L ++ M) → w.grownBy w' v.ownBlock → K (a.put o.dst v') w') : if Region.wanted o (yielded ops a.tmps) = true then Oper.wp Try.prog o a w K Q else E := by
  rw [if_pos hw]
  exact wp_app_all (enc := encAc) s x 29 ho 33 3 40 _ Try.underlying29 infoAc rfl (by decide) (by decide) encAc_len encAc_one B v u L M hs hown hB hx hrd hl h
def MaxAc (L : List Ac) : Prop := ∀ e ∈ L, InAc e
def SzAcs (L : List Ac) : Prop := L.length ≤ 1048576 ∧ ∀ e ∈ L, Sz1Ac e
theorem fitAc_szs {L : List Ac} (h : SzAcs L) : FitAcs L := fun e m => fitAc_sz (h.2 e m)
theorem lenAc_szs {L : List Ac} (h : SzAcs L) : L.length ≤ 1048576 := h.1
set_option maxRecDepth 100000 in
set_option maxHeartbeats 1000000 in
theorem szsAc_any (v : Value) (L : List Ac) (r9 : Int) (w : World) (h : RdG encAc w v L) (hm : MaxAc L) (p0 : 0 ≤ r9) (p1 : r9 ≤ 1048576) :
    Calls Try.prog 35 #[v, .int .i64 r9] w (GotSz (SzAcs L) r9 w) := by
  by_cases hL : L = []
  · subst hL
    obtain ⟨A, c, rfl, hc⟩ := h.nil
    go_enter Try.func35, Try.ntmps35
    go_wp2
    refine wp_loop_rounds 1 ?_
    rw [rounds_succ]; go_wp2
    go_ret
    exact ⟨_, rfl, Int.le_refl _, fun _ => ⟨by simp, by intro e m; simp at m⟩, Below.refl _ _⟩
  · obtain ⟨b, o, c, rfl, h1, h2, hb, h4⟩ := h.some hL
    unfold maxLen at h2
    have hcells := Lib.hid (fun k (hk : k < L.length) => rdAc_cells h4 hk)
    clear h4 hL
    by_cases hbig : r9 < (L.length : Int)
    · go_enter Try.func35, Try.ntmps35
      go_wp2
      go_ret
      exact ⟨-1, rfl, by omega, fun h => absurd h (by omega), Below.refl _ _⟩
    · go_enter Try.func35, Try.ntmps35
      go_wp2
      go_loopw [1, 5] (fun t i wr => ∃ (k : Nat) (r : Int), k ≤ L.length ∧ i = .int .i64 k ∧ t = .int .i64 r ∧ 0 ≤ r ∧ r ≤ r9 ∧ Hid (∀ e ∈ L.take k, Sz1Ac e) ∧ Hid (Below w.heap.size w wr)) (fun _ i _ => L.length - (intOf i).toNat)
      case atStart => exact ⟨0, _, Nat.zero_le _, rfl, rfl, by omega, by omega, Lib.hid (by simp), Lib.hid (Below.refl _ _)⟩
      case round =>
        obtain ⟨k, r, hk, rfl, rfl, r0, r1, hp, hbr⟩ := hrel
        by_cases hlt : k < L.length
        · obtain ⟨c0, c1, c2⟩ := rdAc_at hcells.out hb hbr.out hlt
          have hin := hm _ (List.getElem_mem hlt)
          have hN := fun q => take_mem (p := Sz1Ac) hlt hp.out q
          obtain ⟨e, he⟩ : ∃ e, L[k] = e := ⟨_, rfl⟩
          rw [he] at c0 c1 c2 hin hN
          obtain ⟨name, feed, sign⟩ := e
          simp only at c0 c1 c2
          have HN := Lib.hid hN
          have hin := Lib.hid hin
          have hjj : (k : Int) < (L.length : Int) := by omega
          clear he hN
          go_wp2_with fail
          refine (szAc_any name feed sign r _ hin.out r0 (by omega)).mono ?_
          rintro e w3 ⟨r', rfl, hr1, hr2, hb3⟩
          have hb3 := Lib.hid (below_trans' hbr.out hb3)
          have hr2 := Lib.hid hr2
          by_cases hneg : r' < 0
          · go_wp2
            go_ret
            exact ⟨_, rfl, by omega, fun h => absurd h (by omega), hb3.out⟩
          · have hx := Lib.hid (HN.out (hr2.out (by omega)))
            go_wp2
            go_roundw
            case rel => exact ⟨k + 1, r', by omega, by go_num, rfl, by omega, by omega, hx, hb3⟩
            case measure => simp [intOf]; omega
        · have HR : Hid (SzAcs L) := Lib.hid ⟨by omega, by have := hp.out; rw [List.take_of_length_le (by omega)] at this; exact this⟩
          go_wp2
          go_ret
          exact ⟨_, rfl, r1, fun _ => HR.out, hbr.out⟩
set_option maxRecDepth 100000 in
set_option maxHeartbeats 4000000 in
theorem tosAc_any (v : Value) (L : List Ac) (w : World) (h : RdG encAc w v L) (hn : L.length ≤ 1048576) :
    Calls Try.prog 36 #[v] w (GotOwnAc L w) := by
  by_cases hL : L = []
  · subst hL
    obtain ⟨A, c, rfl, hc⟩ := h.nil
    go_enter Try.func36, Try.ntmps36
    go_wp2_with (at_make; refine fullAc rfl _ _ rfl 0 rfl rfl (by omega) ?_; intro w1 hown0 hb0)
    refine wp_loop_rounds 1 ?_
    rw [rounds_succ]; go_wp2
    go_ret
    exact ⟨_, rfl, hown0, hb0⟩
  · obtain ⟨b, o, c, rfl, h1, h2, hb, h4⟩ := h.some hL
    unfold maxLen at h2
    have hcells := Lib.hid (fun k (hk : k < L.length) => rdAc_cells h4 hk)
    clear h4 hL
    go_enter Try.func36, Try.ntmps36
    go_wp2_with (at_make; refine fullAc rfl _ _ rfl L.length rfl rfl (by omega) ?_; intro w1 hown0 hb0)
    have hown0 := Lib.hid hown0
    have hb0 := Lib.hid hb0
    go_loopw [4] (fun i wr => ∃ (k : Nat) (M : List Ac), k ≤ L.length ∧ i = .int .i64 k ∧ M.length = L.length ∧ Hid (M.take k = L.take k) ∧ Hid (OwnAc wr w.heap.size (.slice (some ⟨w.heap.size, 0, none⟩) L.length L.length) M) ∧ Hid (Below w.heap.size w wr)) (fun i _ => L.length - (intOf i).toNat)
    case atStart => exact ⟨0, List.replicate L.length ⟨⟨#[]⟩, ⟨#[]⟩, 0⟩, Nat.zero_le _, rfl, by simp, Lib.hid rfl, hown0, hb0⟩
    case round =>
      obtain ⟨k, M, hk, rfl, hM, hp, hown, hbr⟩ := hrel
      have hM := Lib.hid hM
      by_cases hlt : k < L.length
      · obtain ⟨c0, c1, c2⟩ := rdAc_at hcells.out hb hbr.out hlt
        have hset := Lib.hid (set_take hM.out hlt hp.out L[k] rfl)
        obtain ⟨e, he⟩ : ∃ e, L[k] = e := ⟨_, rfl⟩
        rw [he] at c0 c1 c2 hset
        obtain ⟨name, feed, sign⟩ := e
        simp only at c0 c1 c2
        have hjj : (k : Int) < (L.length : Int) := by omega
        clear he
        go_wp2_with fail
        refine (toAc_any name feed sign _).mono ?_
        rintro e w3 ⟨rfl, hb3⟩
        have hown3 := Lib.hid (OwnG.grown hown.out hb3)
        have hbw3 := Lib.hid (below_trans' hbr.out hb3)
        have hkM : k < M.length := by rw [hM.out]; exact hlt
        obtain ⟨x, hx⟩ : ∃ x, M[k] = x := ⟨_, rfl⟩
        obtain ⟨x_name, x_feed, x_sign⟩ := x
        have cell := fun j hj => OwnG.cellAt encAc_len hown3.out k hkM j hj (k * 3 + j) rfl
        rw [hx] at cell
        obtain ⟨a0, a1, a2⟩ := OwnG.cellAt encAc_len hown3.out k hkM 0 (by omega) (k * 3) rfl
        rw [hx] at a0
        rw [show (encAc ⟨x_name, x_feed, x_sign⟩)[0]? = some (.string x_name) from rfl] at a0
        obtain ⟨b1, f1, _⟩ := cell 1 (by omega)
        rw [show (encAc ⟨x_name, x_feed, x_sign⟩)[1]? = some (.string x_feed) from rfl] at b1
        obtain ⟨b2, f2, _⟩ := cell 2 (by omega)
        rw [show (encAc ⟨x_name, x_feed, x_sign⟩)[2]? = some (.int .i64 x_sign) from rfl] at b2
        have s1 := (OwnG.store encAc_len hown3.out k hkM 0 (by omega) (.string name) ⟨name, x_feed, x_sign⟩ (by rw [hx]; rfl) (k * 3) rfl).1
        have s2 := (OwnG.store encAc_len s1 k (by simpa using hkM) 1 (by omega) (.string feed) ⟨name, feed, x_sign⟩ (by rw [List.getElem_set_self]; rfl) (k * 3 + 1) rfl).1
        have s3 := (OwnG.store encAc_len s2 k (by simpa using hkM) 2 (by omega) (.int .i64 sign) ⟨name, feed, sign⟩ (by rw [List.getElem_set_self]; rfl) (k * 3 + 2) rfl).1
        rw [List.set_set, List.set_set] at s3
        have S4 := Lib.hid s3
        have G4 := Lib.hid (((hbw3.out.setCell (p := ⟨w.heap.size, k * 3, none⟩) (Nat.le_refl _) (.string name)).setCell (p := ⟨w.heap.size, k * 3 + 1, none⟩) (Nat.le_refl _) (.string feed)).setCell (p := ⟨w.heap.size, k * 3 + 2, none⟩) (Nat.le_refl _) (.int .i64 sign))
        clear s1 s2 s3 cell hx
        go_wp2
        go_roundw
        case rel => exact ⟨k + 1, M.set k ⟨name, feed, sign⟩, by omega, by go_num, by rw [List.length_set]; exact hM.out, hset, S4, G4⟩
        case measure => simp [intOf]; omega
      · have HR : Hid (M = L) := Lib.hid (by have := hp.out; rw [List.take_of_length_le (by omega), List.take_of_length_le (by have := hM.out; omega)] at this; exact this)
        go_wp2
        go_ret
        exact ⟨.slice (some ⟨w.heap.size, 0, none⟩) L.length L.length, rfl, by have := hown.out; rw [HR.out] at this; exact this, hbr.out⟩
set_option maxRecDepth 100000 in
set_option maxHeartbeats 4000000 in
theorem eqsAc_any (v v' : Value) (L : List Ac) (w : World) (h : RdG encAc w v L) (h' : RdG encAc w v' L) :
    Calls Try.prog 37 #[v, v'] w fun e w' => e = .returned (.bool true) ∧ Below w.heap.size w w' := by
  by_cases hL : L = []
  · subst hL
    obtain ⟨A, c, rfl, hc⟩ := h.nil
    obtain ⟨A', c', rfl, hc'⟩ := h'.nil
    go_enter Try.func37, Try.ntmps37
    go_wp2
    refine wp_loop_rounds 1 ?_
    rw [rounds_succ]; go_wp2
    go_ret
    exact ⟨rfl, Below.refl _ _⟩
  · obtain ⟨b, o, c, rfl, h1, h2, hb, h4⟩ := h.some hL
    obtain ⟨b', o', c', rfl, h1', h2', hb', h4'⟩ := h'.some hL
    unfold maxLen at h2 h2'
    have hcells := Lib.hid (fun k (hk : k < L.length) => rdAc_cells h4 hk)
    have hcells' := Lib.hid (fun k (hk : k < L.length) => rdAc_cells h4' hk)
    clear h4 h4' hL
    have t0 : ((L.length : Int) == (L.length : Int)) = true := by simp
    go_enter Try.func37, Try.ntmps37
    go_wp2
    go_loopw [5] (fun i wr => ∃ k : Nat, k ≤ L.length ∧ i = .int .i64 k ∧ Hid (Below w.heap.size w wr)) (fun i _ => L.length - (intOf i).toNat)
    case atStart => exact ⟨0, Nat.zero_le _, rfl, Lib.hid (Below.refl _ _)⟩
    case round =>
      obtain ⟨k, hk, rfl, hbr⟩ := hrel
      by_cases hlt : k < L.length
      · obtain ⟨c0, c1, c2⟩ := rdAc_at hcells.out hb hbr.out hlt
        obtain ⟨d0, d1, d2⟩ := rdAc_at hcells'.out hb' hbr.out hlt
        obtain ⟨e, he⟩ : ∃ e, L[k] = e := ⟨_, rfl⟩
        rw [he] at c0 c1 c2 d0 d1 d2
        obtain ⟨name, feed, sign⟩ := e
        simp only at c0 c1 c2 d0 d1 d2
        have hj0 : (0 : Int) ≤ (k : Int) := by omega
        have hjj : (k : Int) < (L.length : Int) := by omega
        clear he
        have hbd : Hid (Below w.heap.size w wr.drew) := Lib.hid (Below.drew hbr.out)
        go_wp2
        go_region_held3 (fun w' => w'.cell? ⟨b, o + k * 3, none⟩ = some (.string name) ∧ w'.cell? ⟨b, o + k * 3 + 1, none⟩ = some (.string feed) ∧ w'.cell? ⟨b, o + k * 3 + 2, none⟩ = some (.int .i64 sign) ∧ w'.cell? ⟨b', o' + k * 3, none⟩ = some (.string name) ∧ w'.cell? ⟨b', o' + k * 3 + 1, none⟩ = some (.string feed) ∧ w'.cell? ⟨b', o' + k * 3 + 2, none⟩ = some (.int .i64 sign) ∧ Hid (Below w.heap.size w w'))
          (first | exact ⟨c0, c1, c2, d0, d1, d2, hbd⟩ | exact hS3.out)
          (first | (go_at_call 59; refine (eqAc_any name feed sign _).mono ?_; rintro e w3 ⟨rfl, hb3⟩; have hS3 := Lib.hid (keepP3 (W := w) (w2 := wr.drew) (b := b) (b' := b') (i := o + k * 3) (i' := o' + k * 3) (x0 := .string name) (x1 := .string feed) (x2 := .int .i64 sign) (y0 := .string name) (y1 := .string feed) (y2 := .int .i64 sign) hb hb' hb3 c0 c1 c2 d0 d1 d2 hbd)))
        go_split_ands
        rename Hid (Below w.heap.size w _) => hS
        go_wp2
        go_roundw
        case rel => exact ⟨k + 1, by omega, by go_num, hS⟩
        case measure => simp [intOf]; omega
      · go_wp2
        go_ret
        exact ⟨rfl, hbr.out⟩
set_option maxRecDepth 100000 in
set_option maxHeartbeats 4000000 in
theorem sameAc_any (v v' : Value) (L : List Ac) (w : World) (h : RdG encAc w v L) (h' : RdG encAc w v' L) :
    Calls Try.prog 30 #[v, v'] w (Quiet (.bool true) w) := by
  by_cases hL : L = []
  · subst hL
    obtain ⟨A, c, rfl, hc⟩ := h.nil
    obtain ⟨A', c', rfl, hc'⟩ := h'.nil
    go_enter Try.func30, Try.ntmps30
    go_wp2
    refine wp_loop_rounds 1 ?_
    rw [rounds_succ]; go_wp2
    go_ret
    exact ⟨rfl, 0, rfl⟩
  · obtain ⟨b, o, c, rfl, h1, h2, hb, h4⟩ := h.some hL
    obtain ⟨b', o', c', rfl, h1', h2', hb', h4'⟩ := h'.some hL
    unfold maxLen at h2 h2'
    have hcells := Lib.hid (fun k (hk : k < L.length) => rdAc_cells h4 hk)
    have hcells' := Lib.hid (fun k (hk : k < L.length) => rdAc_cells h4' hk)
    clear h4 h4' hL
    have t0 : ((L.length : Int) == (L.length : Int)) = true := by simp
    go_enter Try.func30, Try.ntmps30
    go_wp2
    go_loopw [5] (fun i wr => ∃ k : Nat, k ≤ L.length ∧ i = .int .i64 k ∧ Hid (∃ m, wr = w.drewN m)) (fun i _ => L.length - (intOf i).toNat)
    case atStart => exact ⟨0, Nat.zero_le _, rfl, Lib.hid ⟨0, rfl⟩⟩
    case round =>
      obtain ⟨k, hk, rfl, hw⟩ := hrel
      by_cases hlt : k < L.length
      · have hbel : Below w.heap.size w wr := by obtain ⟨m, hm⟩ := hw.out; rw [hm]; exact below_drewN w m
        obtain ⟨c0, c1, c2⟩ := rdAc_at hcells.out hb hbel hlt
        obtain ⟨d0, d1, d2⟩ := rdAc_at hcells'.out hb' hbel hlt
        obtain ⟨e, he⟩ : ∃ e, L[k] = e := ⟨_, rfl⟩
        rw [he] at c0 c1 c2 d0 d1 d2
        obtain ⟨name, feed, sign⟩ := e
        simp only at c0 c1 c2 d0 d1 d2
        have hj0 : (0 : Int) ≤ (k : Int) := by omega
        have hjj : (k : Int) < (L.length : Int) := by omega
        have q0 := str_same (a := name) (b := name) rfl
        have q1 := str_same (a := feed) (b := feed) rfl
        have q2 : (sign == sign) = true := by simp
        clear he hbel
        go_wp2
        go_quiet (fail)
        go_wp2
        go_roundw
        case rel => exact ⟨k + 1, by omega, by go_num, Lib.hid (by obtain ⟨m, hm⟩ := hw.out; exact ⟨_, by rw [hm, drewN_add]⟩)⟩
        case measure => simp [intOf]; omega
      · go_wp2
        go_ret
        exact ⟨rfl, hw.out⟩
/-- lists of different lengths are not the same -/
theorem sameAc_ne (v v' : Value) (L L' : List Ac) (w : World) (h : RdG encAc w v L) (h' : RdG encAc w v' L') (hn : L.length ≠ L'.length) :
    Calls Try.prog 30 #[v, v'] w (Quiet (.bool false) w) := by
  obtain ⟨A, c, rfl, h1, h2, _⟩ := h
  obtain ⟨A', c', rfl, h1', h2', _⟩ := h'
  unfold maxLen at h2 h2'
  have t0 : ((L.length : Int) == (L'.length : Int)) = false := by rw [beq_eq_false_iff_ne]; omega
  go_enter Try.func30, Try.ntmps30
  go_wp2
  go_ret
  exact ⟨rfl, 0, rfl⟩
set_option maxRecDepth 100000 in
theorem elAc {H : Type} {en : TypeId × Value → H} {w : World} {spare : Nat → Bool} {held : Bool} : ∀ m cs' x', DataW.trod en Try.prog w 0 spare held m 50 cs' = some x' → ∃ y : Ac, cs' = encAc y ∧ InAc y := by
  intro m cs x h
  obtain ⟨xs, n, _, _, hlen, hxl, hf⟩ := DataW.trod_struct Try.underlying50 h
  have hC : Try.prog.cellsOf 50 = 3 := by kernel_rfl
  have ks : Try.prog.cellsOf 9 = 1 := by kernel_rfl
  have ki : Try.prog.cellsOf 3 = 1 := by kernel_rfl
  rw [hC] at hlen
  match cs, hlen, xs, hxl with
  | [c0, c1, c2], _, [y0, y1, y2], _ =>
    have h0 : DataW.trod en Try.prog w 0 spare held n 9 [c0] = some y0 := by have := hf 0 _ rfl; simpa [ks] using this
    have h1 : DataW.trod en Try.prog w 0 spare held n 9 [c1] = some y1 := by have := hf 1 _ rfl; simpa [ks] using this
    have h2 : DataW.trod en Try.prog w 0 spare held n 3 [c2] = some y2 := by have := hf 2 _ rfl; simpa [ks, ki] using this
    obtain ⟨s0, e0, _, m0⟩ := DataW.trod_string Try.underlying9 h0
    obtain ⟨s1, e1, _, m1⟩ := DataW.trod_string Try.underlying9 h1
    obtain ⟨s2, e2, _, m2⟩ := DataW.trod_int Try.underlying3 h2
    simp at e0 e1 e2
    exact ⟨⟨s0, s1, s2⟩, by rw [e0, e1, e2]; rfl, m0, m1, m2⟩
/-- an argument that is a list -/
def ArgLAc (w : World) (A : Option Addr) (n c : Nat) (L : List Ac) : Prop := L.length = n ∧ RdG encAc w (.slice A n c) L ∧ MaxAc L
set_option maxRecDepth 100000 in
theorem argLAc {H : Type} {en : TypeId × Value → H} {w : World} {spare : Nat → Bool} {held : Bool} {fuel : Nat} {A : Option Addr} {n c : Nat} {cs : List Value} {x : DataW H × List MemPlace} (hcs : cs = [.slice A n c]) (h : DataW.trod en Try.prog w 0 spare held fuel 45 cs = some x) :
    ∃ L : List Ac, ArgLAc w A n c L :=
  rd_arg 3 (by decide) Try.underlying45 (by kernel_rfl) encAc_len _ elAc hcs h
/-- marked ones -/
def markAc (n m : Nat) : List Ac := (List.range n).map fun i => ⟨(mlT (m + 3 * i)), (mlT ((m + 3 * i) + 1)), ((((m + 3 * i) : Nat) : Int) + 1 + 1)⟩
theorem markAc_len (n m : Nat) : (markAc n m).length = n := by simp [markAc]
theorem markAc_get (n m i : Nat) (h : i < (markAc n m).length) : (markAc n m)[i] = ⟨(mlT (m + 3 * i)), (mlT ((m + 3 * i) + 1)), ((((m + 3 * i) : Nat) : Int) + 1 + 1)⟩ := by simp [markAc]
def GotMarkAc (w : World) (B : Nat) (v : Value) (n m : Nat) (e : Ending) (w' : World) : Prop := e = .returned (.int .i64 ((m + 3 * n : Nat) : Int)) ∧ OwnAc w' B v (markAc n m) ∧ w.grownBy w' v.ownBlock
set_option maxRecDepth 100000 in
set_option maxHeartbeats 4000000 in
theorem marksAc_row (v : Value) (L : List Ac) (m B : Nat) (w : World) (hown : OwnAc w B v L) (hn : L.length ≤ 1048576) (hm : m ≤ 5000000) :
    Calls Try.prog 40 #[v, .int .i64 m] w (GotMarkAc w B v L.length m) := by
  rcases OwnG.form hown with ⟨rfl, rfl⟩ | ⟨g, c, rfl, hg⟩
  · go_enter Try.func40, Try.ntmps40
    go_wp2
    refine wp_loop_rounds 1 ?_
    rw [rounds_succ]; go_wp2
    go_ret
    exact ⟨rfl, hown, grown_refl _ _⟩
  · have hown := Lib.hid hown
    go_enter Try.func40, Try.ntmps40
    go_wp2
    go_loopw [1, 5] (fun t i wr => ∃ (k q : Nat) (M : List Ac), k ≤ L.length ∧ i = .int .i64 k ∧ t = .int .i64 q ∧ q ≤ 12000000 ∧ Hid (q = m + 3 * k) ∧ M.length = L.length ∧ Hid (M.take k = (markAc L.length m).take k) ∧ Hid (OwnAc wr B (.slice (some ⟨g, 0, none⟩) L.length c) M) ∧ Hid (w.grownBy wr (some g))) (fun _ i _ => L.length - (intOf i).toNat)
    case atStart => exact ⟨0, m, L, Nat.zero_le _, rfl, rfl, by omega, Lib.hid rfl, rfl, Lib.hid rfl, hown, Lib.hid (grown_refl _ _)⟩
    case round =>
      obtain ⟨k, q, M, hk, rfl, rfl, hq1, hq, hM, hp, hownr, hbr⟩ := hrel
      have hM := Lib.hid hM
      by_cases hlt : k < L.length
      · have hkM : k < M.length := by rw [hM.out]; exact hlt
        have hset := Lib.hid (set_take (L := markAc L.length m) (by rw [markAc_len]; exact hM.out) (by rw [markAc_len]; exact hlt) hp.out ⟨(mlT q), (mlT (q + 1)), (((q : Nat) : Int) + 1 + 1)⟩ (by rw [markAc_get, hq.out]))
        have hjj : (k : Int) < (L.length : Int) := by omega
        have hq2 : q + 3 ≤ 12000000 := by have := hq.out; omega
        have HQ : Hid (q + 1 + 1 + 1 = m + 3 * (k + 1)) := Lib.hid (by have := hq.out; omega)
        obtain ⟨x, hx⟩ : ∃ x, M[k] = x := ⟨_, rfl⟩
        obtain ⟨x_name, x_feed, x_sign⟩ := x
        go_wp2_with fail
        refine (mkl_bigI _ q _ rfl (by omega)).mono ?_
        rintro e w3 ⟨rfl, hb3⟩
        have hown3 := Lib.hid (OwnG.grown hownr.out hb3)
        have hbw3 := Lib.hid (row_trans hbr.out hb3)
        clear hb3
        obtain ⟨a0, f0, t0⟩ := OwnG.cellAt encAc_len hown3.out k hkM 0 (by omega) (k * 3) rfl
        rw [hx, show (encAc ⟨x_name, x_feed, x_sign⟩)[0]? = some (.string x_name) from rfl] at a0
        have s0 := (OwnG.store encAc_len hown3.out k hkM 0 (by omega) (.string (mlT q)) ⟨(mlT q), x_feed, x_sign⟩ (by rw [hx]; rfl) (k * 3) rfl).1
        have S0 := Lib.hid s0
        have G0 := Lib.hid (row_set hbw3.out (k * 3) (.string (mlT q)))
        clear s0
        go_wp2_with fail
        refine (mkl_bigI _ (q + 1) _ (by omega) (by omega)).mono ?_
        rintro e w4 ⟨rfl, hb4⟩
        have hown4 := Lib.hid (OwnG.grown S0.out hb4)
        have hbw4 := Lib.hid (row_trans G0.out hb4)
        clear hb4 a0 f0 t0
        have hk1 : k < (M.set k ⟨(mlT q), x_feed, x_sign⟩).length := by rw [List.length_set]; exact hkM
        obtain ⟨a1, f1, t1⟩ := OwnG.cellAt encAc_len hown4.out k hk1 1 (by omega) (k * 3 + 1) rfl
        rw [List.getElem_set_self, show (encAc ⟨(mlT q), x_feed, x_sign⟩)[1]? = some (.string x_feed) from rfl] at a1
        obtain ⟨a2, f2, t2⟩ := OwnG.cellAt encAc_len hown4.out k hk1 2 (by omega) (k * 3 + 2) rfl
        rw [List.getElem_set_self, show (encAc ⟨(mlT q), x_feed, x_sign⟩)[2]? = some (.int .i64 x_sign) from rfl] at a2
        have s1 := (OwnG.store encAc_len hown4.out k hk1 1 (by omega) (.string (mlT (q + 1))) ⟨(mlT q), (mlT (q + 1)), x_sign⟩ (by rw [List.getElem_set_self]; rfl) (k * 3 + 1) rfl).1
        have s2 := (OwnG.store encAc_len s1 k (by simpa using hkM) 2 (by omega) (.int .i64 (((q : Nat) : Int) + 1 + 1)) ⟨(mlT q), (mlT (q + 1)), (((q : Nat) : Int) + 1 + 1)⟩ (by rw [List.getElem_set_self]; rfl) (k * 3 + 2) rfl).1
        rw [List.set_set, List.set_set] at s2
        have S1 := Lib.hid s2
        have G1 := Lib.hid (row_set (row_set hbw4.out (k * 3 + 1) (.string (mlT (q + 1)))) (k * 3 + 2) (.int .i64 (((q : Nat) : Int) + 1 + 1)))
        clear s1 s2
        go_wp2
        go_roundw
        case rel => exact ⟨k + 1, q + 1 + 1 + 1, _, by omega, by go_num, by go_num, hq2, HQ, by rw [List.length_set]; exact hM.out, hset, by first | exact S1 | (have := S1; simpa [Int.add_assoc] using this), by first | exact G1 | (have := G1; simpa [Int.add_assoc] using this)⟩
        case measure => simp [intOf]; omega
      · have HR : Hid (M = markAc L.length m) := Lib.hid (by have := hp.out; rw [List.take_of_length_le (by have := hM.out; omega), List.take_of_length_le (by rw [markAc_len]; omega)] at this; exact this)
        have hqn : q = m + 3 * L.length := by have := hq.out; omega
        have hqn := Lib.hid hqn
        go_wp2
        go_ret
        exact ⟨by rw [← hqn.out]; rfl, by rw [← HR.out]; exact hownr.out, hbr.out⟩
set_option maxRecDepth 100000 in
set_option maxHeartbeats 4000000 in
theorem heldsAc_any (v : Value) (n m : Nat) (w : World) (h : RdG encAc w v (markAc n m)) (hn : n ≤ 100) (hm : m ≤ 10000) :
    Calls Try.prog 41 #[v, .int .i64 m] w fun e w' => e = .returned (.int .i64 ((m + 3 * n : Nat) : Int)) ∧ Below w.heap.size w w' := by
  by_cases h0 : n = 0
  · subst h0
    obtain ⟨A, c, rfl, hc⟩ := h.nil
    go_enter Try.func41, Try.ntmps41
    go_wp2
    refine wp_loop_rounds 1 ?_
    rw [rounds_succ]; go_wp2
    go_ret
    exact ⟨rfl, Below.refl _ _⟩
  · obtain ⟨b, o, c, rfl, h1, h2, hb, h4⟩ := h.some (fun e => h0 (by rw [← markAc_len n m, e]; rfl))
    rw [markAc_len] at h1
    rw [markAc_len]
    unfold maxLen at h2
    have hcells := Lib.hid (fun k (hk : k < (markAc n m).length) => rdAc_cells h4 hk)
    clear h4 h h0
    go_enter Try.func41, Try.ntmps41
    go_wp2
    go_loopw [1, 5] (fun t i wr => ∃ (k q : Nat), k ≤ n ∧ i = .int .i64 k ∧ t = .int .i64 q ∧ q ≤ 11000 ∧ Hid (q = m + 3 * k) ∧ Hid (Below w.heap.size w wr)) (fun _ i _ => n - (intOf i).toNat)
    case atStart => exact ⟨0, m, Nat.zero_le _, rfl, rfl, by omega, Lib.hid rfl, Lib.hid (Below.refl _ _)⟩
    case round =>
      obtain ⟨k, q, hk, rfl, rfl, hq1, hq, hbr⟩ := hrel
      by_cases hlt : k < n
      · obtain ⟨c0, c1, c2⟩ := rdAc_at hcells.out hb hbr.out (k := k) (by rw [markAc_len]; exact hlt)
        rw [markAc_get, ← hq.out] at c0 c1 c2
        simp only at c0 c1 c2
        have hj0 : (0 : Int) ≤ (k : Int) := by omega
        have hjj : (k : Int) < (n : Int) := by omega
        have hq2 : q + 3 ≤ 11000 := by have := hq.out; omega
        have HQ : Hid (q + 1 + 1 + 1 = m + 3 * (k + 1)) := Lib.hid (by have := hq.out; omega)
        have q0 := str_same (a := mlT q) (b := mlT q) rfl
        have q1 := str_same (a := mlT (q + 1)) (b := mlT (q + 1)) rfl
        have hbd : Hid (Below w.heap.size w wr.drew) := Lib.hid (Below.drew hbr.out)
        go_wp2
        go_region_held3 (fun w' => w'.cell? ⟨b, o + k * 3, none⟩ = some (.string (mlT q)) ∧ w'.cell? ⟨b, o + k * 3 + 1, none⟩ = some (.string (mlT (q + 1))) ∧ w'.cell? ⟨b, o + k * 3 + 2, none⟩ = some (.int .i64 (((q : Nat) : Int) + 1 + 1)) ∧ Hid (Below w.heap.size w w'))
          (first | exact ⟨c0, c1, c2, hbd⟩ | exact hS0.out)
          (first | (go_at_call 60; refine (mkl_int _ q _ rfl (by omega)).mono ?_; rintro e w3 ⟨rfl, hb3⟩; have hS0 := Lib.hid (keepR3 (W := w) (i := o + k * 3) (x0 := .string (mlT q)) (x1 := .string (mlT (q + 1))) (x2 := .int .i64 (((q : Nat) : Int) + 1 + 1)) hb hb3 (by assumption) (by assumption) (by assumption) (by assumption))))
        go_split_ands
        rename Hid (Below w.heap.size w _) => hT0
        have hU0 := Lib.hid (Below.drew hT0.out)
        go_wp2
        go_region_held3 (fun w' => w'.cell? ⟨b, o + k * 3, none⟩ = some (.string (mlT q)) ∧ w'.cell? ⟨b, o + k * 3 + 1, none⟩ = some (.string (mlT (q + 1))) ∧ w'.cell? ⟨b, o + k * 3 + 2, none⟩ = some (.int .i64 (((q : Nat) : Int) + 1 + 1)) ∧ Hid (Below w.heap.size w w'))
          (first | exact ⟨by assumption, by assumption, by assumption, hU0⟩ | exact hS1.out)
          (first | (go_at_call 60; refine (mkl_int _ (q + 1) _ (by omega) (by omega)).mono ?_; rintro e w3 ⟨rfl, hb3⟩; have hS1 := Lib.hid (keepR3 (W := w) (i := o + k * 3) (x0 := .string (mlT q)) (x1 := .string (mlT (q + 1))) (x2 := .int .i64 (((q : Nat) : Int) + 1 + 1)) hb hb3 (by assumption) (by assumption) (by assumption) (by assumption))))
        go_split_ands
        rename Hid (Below w.heap.size w _) => hT1
        have hU1 := Lib.hid (Below.drew hT1.out)
        go_wp2
        go_roundw
        case rel => exact ⟨k + 1, q + 1 + 1 + 1, by omega, by go_num, by go_num, hq2, HQ, hT1⟩
        case measure => simp [intOf]; omega
      · have hqn : q = m + 3 * n := by have := hq.out; omega
        have hqn := Lib.hid hqn
        go_wp2
        go_ret
        exact ⟨by rw [← hqn.out]; rfl, hbr.out⟩
end Go.Proofs.Ytacapigdfabiiaa
