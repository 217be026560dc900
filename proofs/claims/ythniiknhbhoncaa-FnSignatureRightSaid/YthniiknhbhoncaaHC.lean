/-
  The verifier's own text: AscMath ActMath QuietW CopyG TAc LAc EAc MAc.
-/
import Derived.Test.YthniiknhbhoncaaRows
import Derived.Test.YthniiknhbhoncaaGa
import Derived.Test.YthniiknhbhoncaaHA
import Derived.Test.YthniiknhbhoncaaGc
import Derived.Test.YthniiknhbhoncaaGb
import Derived.Test.YthniiknhbhoncaaGq
import Derived.Test.YthniiknhbhoncaaGn
import Derived.Lib.SmallJoins
import Derived.BigFrame
import Derived.Deep.RegionHeld3
import Derived.WalkKit
import Derived.ProofKit
import Derived.Below
import Derived.Lib.Hide
import Derived.Outline
import Derived.BigQuiet
import Derived.Deep.QuietTactic
import Derived.Deep.Draws
import Derived.Laws.OwnMore
import Derived.Laws.Rows
import Derived.WalkSpells
import Derived.Deep.RegionWith
namespace Go.Proofs.Ythniiknhbhoncaa
open Go.RowKit
set_option linter.unusedVariables false
/-! Lists that ascend by a strict order of keys, and insertion into them. -/
/-- a strict order: never itself, and through -/
structure Ord {α : Type} (lt : α → α → Bool) : Prop where
  irr : ∀ a, lt a a = false
  tra : ∀ a b c, lt a b = true → lt b c = true → lt a c = true
def ascB {α : Type} (lt : α → α → Bool) (L : List α) : Bool := decide (L.Pairwise fun a b => lt a b = true)
theorem ascB_iff {α : Type} {lt : α → α → Bool} {L : List α} : ascB lt L = true ↔ L.Pairwise fun a b => lt a b = true := by
  unfold ascB; exact decide_eq_true_iff
theorem asc_take {α : Type} {lt : α → α → Bool} {L : List α} (h : ascB lt L = true) (k : Nat) : ascB lt (L.take k) = true := ascB_iff.2 ((ascB_iff.1 h).sublist (List.take_sublist k L))
theorem asc_drop {α : Type} {lt : α → α → Bool} {L : List α} (h : ascB lt L = true) (k : Nat) : ascB lt (L.drop k) = true := ascB_iff.2 ((ascB_iff.1 h).sublist (List.drop_sublist k L))
theorem asc_get {α : Type} {lt : α → α → Bool} {L : List α} (h : ascB lt L = true) {j k : Nat} (hj : j < k) (hk : k < L.length) : lt (L[j]'(by omega)) L[k] = true :=
  List.pairwise_iff_getElem.1 (ascB_iff.1 h) j k (by omega) hk hj
theorem asc_next {α : Type} {lt : α → α → Bool} (o : Ord lt) {L : List α} {k : Nat} (hk : k < L.length) (h : ascB lt (L.take k) = true) (ha : ∀ h0 : 0 < k, lt (L[k - 1]'(by omega)) L[k] = true) : ascB lt (L.take (k + 1)) = true := by
  have e : L.take (k + 1) = L.take k ++ [L[k]] := List.take_succ_eq_append_getElem hk
  rw [e, ascB_iff, List.pairwise_append]
  refine ⟨ascB_iff.1 h, by simp, fun a m b mb => ?_⟩
  have hb : b = L[k] := by simpa using mb
  subst hb
  obtain ⟨j, hj, rfl⟩ := List.getElem_of_mem m
  have hjk : j < k := by rw [List.length_take] at hj; omega
  rw [List.getElem_take]
  by_cases q : j = k - 1
  · subst q; exact ha (by omega)
  · have h1 := asc_get h (j := j) (k := k - 1) (by omega) (by rw [List.length_take]; omega)
    rw [List.getElem_take, List.getElem_take] at h1
    exact o.tra _ _ _ h1 (ha (by omega))
theorem asc_bad {α : Type} {lt : α → α → Bool} {L : List α} {j k : Nat} (hj : j < k) (hk : k < L.length) (h : lt (L[j]'(by omega)) L[k] = false) : ascB lt L = false := by
  rcases q : ascB lt L with _ | _
  · rfl
  · rw [asc_get q hj hk] at h; cases h
theorem asc_twice {α : Type} {lt : α → α → Bool} (o : Ord lt) (a : α) (L : List α) : ascB lt (a :: a :: L) = false := by
  rcases q : ascB lt (a :: a :: L) with _ | _
  · rfl
  · have := List.rel_of_pairwise_cons (ascB_iff.1 q) (a' := a) (by simp)
    rw [o.irr] at this; cases this
theorem asc_tail {α : Type} {lt : α → α → Bool} {a : α} {L : List α} (h : ascB lt (a :: L) = true) : ascB lt L = true := ascB_iff.2 (ascB_iff.1 h).tail
/-- where an element belongs -/
def plc {α : Type} (lt : α → α → Bool) : List α → α → Nat
  | [], _ => 0
  | x :: L, a => if lt x a = true then plc lt L a + 1 else 0
theorem plc_le {α : Type} (lt : α → α → Bool) : ∀ (L : List α) (a : α), plc lt L a ≤ L.length := by
  intro L
  induction L with
  | nil => intro a; simp [plc]
  | cons x L ih => intro a; have := ih a; unfold plc; split <;> simp <;> omega
theorem plc_is {α : Type} {lt : α → α → Bool} : ∀ {L : List α} {a : α} {k : Nat} (_ : k ≤ L.length) (_ : ∀ j (hj : j < L.length), j < k → lt L[j] a = true) (_ : ∀ h : k < L.length, lt L[k] a = false), plc lt L a = k := by
  intro L
  induction L with
  | nil => intro a k hk _ _; simp at hk; subst hk; rfl
  | cons x L ih =>
    intro a k hk h1 h2
    cases k with
    | zero =>
      have := h2 (by simp)
      simp only [List.getElem_cons_zero] at this
      simp [plc, this]
    | succ k =>
      have h0 := h1 0 (by simp) (by omega)
      simp only [List.getElem_cons_zero] at h0
      have := ih (a := a) (k := k) (by simpa using hk) (fun j hj hjk => by have := h1 (j + 1) (by simpa using hj) (by omega); simpa using this) (fun h => by have := h2 (by simpa using h); simpa using this)
      simp [plc, h0, this]
theorem plc_lt {α : Type} {lt : α → α → Bool} : ∀ {L : List α} {a : α} {j : Nat} (hj : j < plc lt L a), lt (L[j]'(Nat.lt_of_lt_of_le hj (plc_le lt L a))) a = true := by
  intro L
  induction L with
  | nil => intro a j hj; simp [plc] at hj
  | cons x L ih =>
    intro a j hj
    by_cases h : lt x a = true
    · cases j with
      | zero => simpa using h
      | succ j =>
        have hj' : j < plc lt L a := by simp [plc, h] at hj; exact hj
        simpa using ih hj'
    · simp [plc, h] at hj
theorem plc_ge {α : Type} {lt : α → α → Bool} : ∀ {L : List α} {a : α} (h : plc lt L a < L.length), lt L[plc lt L a] a = false := by
  intro L
  induction L with
  | nil => intro a h; simp at h
  | cons x L ih =>
    intro a h
    by_cases hx : lt x a = true
    · have e : plc lt (x :: L) a = plc lt L a + 1 := by simp [plc, hx]
      have h' : plc lt L a < L.length := by rw [e] at h; simpa using h
      simp only [e, List.getElem_cons_succ]
      exact ih h'
    · have e : plc lt (x :: L) a = 0 := by simp [plc, hx]
      simp only [e, List.getElem_cons_zero]
      simpa using hx
/-- with one more in its place -/
def insG {α : Type} (lt : α → α → Bool) (L : List α) (a : α) : List α := L.take (plc lt L a) ++ a :: L.drop (plc lt L a)
theorem insG_len {α : Type} (lt : α → α → Bool) (L : List α) (a : α) : (insG lt L a).length = L.length + 1 := by
  have := plc_le lt L a
  unfold insG; rw [List.length_append, List.length_take, List.length_cons, List.length_drop]; omega
theorem insG_at {α : Type} (lt : α → α → Bool) (L : List α) (a : α) : (insG lt L a)[plc lt L a]'(by rw [insG_len]; have := plc_le lt L a; omega) = a := by
  have := plc_le lt L a
  unfold insG
  rw [List.getElem_append_right (by rw [List.length_take]; omega)]
  have e : plc lt L a - min (plc lt L a) L.length = 0 := by omega
  simp [e]
theorem insG_low {α : Type} (lt : α → α → Bool) (L : List α) (a : α) {j : Nat} (hj : j < plc lt L a) : (insG lt L a)[j]'(by rw [insG_len]; have := plc_le lt L a; omega) = L[j]'(by have := plc_le lt L a; omega) := by
  have := plc_le lt L a
  unfold insG
  rw [List.getElem_append_left (by rw [List.length_take]; omega), List.getElem_take]
theorem insG_take {α : Type} (lt : α → α → Bool) (L : List α) (a : α) : (insG lt L a).take (plc lt L a) = L.take (plc lt L a) := by
  have := plc_le lt L a
  unfold insG; rw [List.take_append_of_le_length (by rw [List.length_take]; omega), List.take_take, Nat.min_self]
theorem insG_drop {α : Type} (lt : α → α → Bool) (L : List α) (a : α) : (insG lt L a).drop (plc lt L a + 1) = L.drop (plc lt L a) := by
  have := plc_le lt L a
  unfold insG
  have e : (L.take (plc lt L a)).length = plc lt L a := by rw [List.length_take]; omega
  rw [List.drop_append, e, List.drop_eq_nil_of_le (by omega)]
  simp
theorem insG_back {α : Type} (lt : α → α → Bool) (L : List α) (a : α) : (insG lt L a).take (plc lt L a) ++ (insG lt L a).drop (plc lt L a + 1) = L := by
  rw [insG_take, insG_drop, List.take_append_drop]
theorem insG_plc {α : Type} {lt : α → α → Bool} (o : Ord lt) (L : List α) (a : α) : plc lt (insG lt L a) a = plc lt L a := by
  have := plc_le lt L a
  refine plc_is (by rw [insG_len]; omega) (fun j hj hjk => ?_) (fun h => ?_)
  · rw [insG_low lt L a hjk]; exact plc_lt hjk
  · rw [insG_at]; exact o.irr a
theorem insG_again {α : Type} {lt : α → α → Bool} (o : Ord lt) (L : List α) (a : α) : ascB lt (insG lt (insG lt L a) a) = false := by
  have hp := plc_le lt L a
  have hi := insG_len lt L a
  have h1 := insG_plc o L a
  have h2 := insG_len lt (insG lt L a) a
  refine asc_bad (j := plc lt L a) (k := plc lt L a + 1) (by omega) (by omega) ?_
  have e1 : (insG lt (insG lt L a) a)[plc lt L a]'(by omega) = a := by
    have := insG_at lt (insG lt L a) a
    simp only [h1] at this; exact this
  have e2 : (insG lt (insG lt L a) a)[plc lt L a + 1]'(by omega) = a := by
    have h3 := insG_drop lt (insG lt L a) a
    rw [h1] at h3
    have h4 := congrArg (fun l : List α => l[0]?) h3
    simp only [List.getElem?_drop, Nat.add_zero] at h4
    rw [List.getElem?_eq_getElem (by omega), List.getElem?_eq_getElem (by omega), insG_at] at h4
    exact Option.some.inj h4
  rw [e1, e2]; exact o.irr a
theorem insG_mem {α : Type} {lt : α → α → Bool} {L : List α} {a x : α} : x ∈ insG lt L a ↔ x ∈ L ∨ x = a := by
  unfold insG
  rw [List.mem_append, List.mem_cons]
  constructor
  · rintro (h | h | h)
    · exact .inl (List.mem_of_mem_take h)
    · exact .inr h
    · exact .inl (List.mem_of_mem_drop h)
  · rintro (h | h)
    · rw [← List.take_append_drop (plc lt L a) L, List.mem_append] at h
      rcases h with h | h
      · exact .inl h
      · exact .inr (.inr h)
    · exact .inr (.inl h)
theorem less_tra {a b c : List UInt8} (h : Op.bytesLess a b = true) (h' : Op.bytesLess b c = true) : Op.bytesLess a c = true := by
  rw [bytesLess_eq] at h h' ⊢
  exact decide_eq_true (List.lt_trans (of_decide_eq_true h) (of_decide_eq_true h'))
/-- an actor -/
structure Ac where
  name : ByteArray
  feed : ByteArray
  sign : Int
instance acDec : DecidableEq Ac := fun a b => if h : a.name = b.name ∧ a.feed = b.feed ∧ a.sign = b.sign then isTrue (by obtain ⟨a0, a1, a2⟩ := a; obtain ⟨b0, b1, b2⟩ := b; obtain ⟨h0, h1, h2⟩ := h; simp only at h0 h1 h2; subst h0; subst h1; subst h2; rfl) else isFalse (by rintro rfl; exact h ⟨rfl, rfl, rfl⟩)
def acB (a : Ac) : Bool := wordB a.name.data.toList && wordB a.feed.data.toList && decide (0 ≤ a.sign ∧ a.sign ≤ 1000000000)
/-- by names -/
def acL (a b : Ac) : Bool := Op.bytesLess a.name.data.toList b.name.data.toList
theorem acL_ord : Ord acL := ⟨fun a => by
  unfold acL
  rcases q : Op.bytesLess a.name.data.toList a.name.data.toList with _ | _
  · rfl
  · exact absurd rfl (less_asymm q).2, fun a b c h k => less_tra h k⟩
/-- at most eight actors, all valid, names ascend, with different feeds -/
def acsB (L : List Ac) : Bool := decide (L.length ≤ 8) && L.all acB && ascB acL L && decide ((L.map Ac.feed).Nodup)
theorem acsB_of {L : List Ac} (h : acsB L = true) : L.length ≤ 8 ∧ (∀ a ∈ L, acB a = true) ∧ ascB acL L = true ∧ (L.map Ac.feed).Nodup := by
  unfold acsB at h; simp only [Bool.and_eq_true, decide_eq_true_eq, List.all_eq_true] at h; exact ⟨h.1.1.1, h.1.1.2, h.1.2, h.2⟩
theorem acsB_mk {L : List Ac} (a : L.length ≤ 8) (b : ∀ i ∈ L, acB i = true) (c : ascB acL L = true) (d : (L.map Ac.feed).Nodup) : acsB L = true := by
  unfold acsB; simp only [Bool.and_eq_true, decide_eq_true_eq, List.all_eq_true]; exact ⟨⟨⟨a, b⟩, c⟩, d⟩
theorem acsB_not {L : List Ac} (h : acsB L = true → False) : acsB L = false := by
  rcases q : acsB L with _ | _
  · rfl
  · exact (h q).elim
theorem acsB_item {L : List Ac} {k : Nat} (h : k < L.length) (b : acB L[k] = false) : acsB L = false := acsB_not fun q => by
  have := (acsB_of q).2.1 _ (List.getElem_mem h); rw [b] at this; cases this
theorem acsB_asc {L : List Ac} {k : Nat} (h0 : 0 < k) (h : k < L.length) (b : acL (L[k - 1]'(by omega)) L[k] = false) : acsB L = false := acsB_not fun q => by
  have := asc_get (acsB_of q).2.2.1 (j := k - 1) (by omega) h; rw [b] at this; cases this
theorem acsB_feed {L : List Ac} {j k : Nat} (hj : j < k) (h : k < L.length) (e : L[j].feed = L[k].feed) : acsB L = false := acsB_not fun q => by
  have := (List.pairwise_iff_getElem.1 (acsB_of q).2.2.2) j k (by rw [List.length_map]; omega) (by rw [List.length_map]; omega) hj
  rw [List.getElem_map, List.getElem_map] at this
  exact absurd e this
theorem acsB_nil : acsB [] = true := by decide
theorem acsB_len {L : List Ac} (h : 8 < L.length) : acsB L = false := acsB_not fun q => by have := (acsB_of q).1; omega
/-- the first k are well -/
def PreA (L : List Ac) (k : Nat) : Prop := (∀ i ∈ L.take k, acB i = true) ∧ ascB acL (L.take k) = true ∧ ((L.take k).map Ac.feed).Nodup
theorem preA_zero (L : List Ac) : PreA L 0 := ⟨by simp, by simp [ascB], by simp⟩
theorem preA_next {L : List Ac} {k : Nat} (h : k < L.length) (p : PreA L k) (b : acB L[k] = true) (a : ∀ h0 : 0 < k, acL (L[k - 1]'(by omega)) L[k] = true) (d : ∀ j (hj : j < k), (L[j]'(by omega)).feed ≠ L[k].feed) : PreA L (k + 1) := by
  have e : L.take (k + 1) = L.take k ++ [L[k]] := List.take_succ_eq_append_getElem h
  refine ⟨fun i m => ?_, asc_next acL_ord h p.2.1 a, ?_⟩
  · rw [e] at m
    rcases List.mem_append.1 m with m | m
    · exact p.1 i m
    · have : i = L[k] := by simpa using m
      rw [this]; exact b
  · rw [e, List.map_append, List.nodup_append]
    refine ⟨p.2.2, by simp, fun a ha c hc => ?_⟩
    have hc' : c = L[k].feed := by simpa using hc
    obtain ⟨i, hi, rfl⟩ := List.mem_map.1 ha
    obtain ⟨j, hj, rfl⟩ := List.getElem_of_mem hi
    have hjk : j < k := by rw [List.length_take] at hj; omega
    rw [List.getElem_take, hc']
    exact d j hjk
theorem preA_end {L : List Ac} {k : Nat} (h : L.length ≤ k) (p : PreA L k) : decide ((L.length : Int) ≤ 8) = acsB L := by
  unfold PreA at p
  rw [List.take_of_length_le h] at p
  by_cases a : L.length ≤ 8
  · rw [acsB_mk a p.1 p.2.1 p.2.2]; exact decide_eq_true (by omega)
  · rw [acsB_len (by omega)]; exact decide_eq_false (by omega)
theorem acsB_tail {a : Ac} {L : List Ac} (h : acsB (a :: L) = true) : acsB L = true := by
  obtain ⟨h1, h2, h3, h4⟩ := acsB_of h
  rw [List.map_cons] at h4
  exact acsB_mk (by simp at h1; omega) (fun i m => h2 i (List.mem_cons_of_mem _ m)) (asc_tail h3) (List.nodup_cons.1 h4).2
theorem acsB_twice (a : Ac) (L : List Ac) : acsB (a :: a :: L) = false := acsB_not fun q => by
  have := (acsB_of q).2.2.1; rw [asc_twice acL_ord] at this; cases this
/-- the number of the actor with a name -/
def acAt : List Ac → ByteArray → Nat → Int
  | [], _, _ => -1
  | a :: L, n, k => if a.name = n then (k : Int) else acAt L n (k + 1)
def acN (L : List Ac) (n : ByteArray) : Int := if acsB L = true then acAt L n 0 else -1
theorem acAt_drop {L : List Ac} {n : ByteArray} {k : Nat} (h : k < L.length) : acAt (L.drop k) n k = if L[k].name = n then (k : Int) else acAt (L.drop (k + 1)) n (k + 1) := by
  rw [List.drop_eq_getElem_cons h]; rfl
theorem acAt_end {L : List Ac} {n : ByteArray} {k : Nat} (h : L.length ≤ k) : acAt (L.drop k) n k = -1 := by rw [List.drop_eq_nil_of_le h]; rfl
theorem acAt_is {n : ByteArray} : ∀ {L : List Ac} {q k : Nat} (hk : k < L.length) (_ : ∀ j (hj : j < k), (L[j]'(by omega)).name ≠ n) (_ : L[k].name = n), acAt L n q = ((q + k : Nat) : Int) := by
  intro L
  induction L with
  | nil => intro q k hk; simp at hk
  | cons a L ih =>
    intro q k hk h e
    cases k with
    | zero => simp only [List.getElem_cons_zero] at e; simp [acAt, e]
    | succ k =>
      have h0 := h 0 (by omega)
      simp only [List.getElem_cons_zero] at h0
      have := ih (q := q + 1) (k := k) (by simpa using hk) (fun j hj => by have := h (j + 1) (by omega); simpa using this) (by simpa using e)
      simp only [acAt, h0, if_false, this]
      congr 1; omega
theorem acAt_lo : ∀ (L : List Ac) (n : ByteArray) (q : Nat), -1 ≤ acAt L n q ∧ acAt L n q < (q + L.length : Nat) := by
  intro L
  induction L with
  | nil => intro n q; simp [acAt]; omega
  | cons a L ih =>
    intro n q
    have := ih n (q + 1)
    simp only [acAt, List.length_cons]
    split <;> omega
theorem acAt_none : ∀ {L : List Ac} {n : ByteArray} {q : Nat} (_ : ∀ a ∈ L, a.name ≠ n), acAt L n q = -1 := by
  intro L
  induction L with
  | nil => intro n q _; rfl
  | cons a L ih => intro n q h; simp only [acAt, h a (by simp), if_false]; exact ih (fun b m => h b (List.mem_cons_of_mem _ m))
theorem acN_in {L : List Ac} {n : ByteArray} (h : acsB L = true) : acN L n = acAt L n 0 := by simp [acN, h]
theorem acN_out {L : List Ac} {n : ByteArray} (h : acsB L = false) : acN L n = -1 := by simp [acN, h]
/-- with one more in its place by names; whether -/
def adA (L : List Ac) (a : Ac) : List Ac × Bool := if acsB L = true then (if acsB (insG acL L a) = true then (insG acL L a, true) else (L, false)) else ([], false)
theorem adA_out {L : List Ac} {a : Ac} (h : acsB L = false) : adA L a = ([], false) := by simp [adA, h]
theorem adA_no {L : List Ac} {a : Ac} (h : acsB L = true) (k : acsB (insG acL L a) = false) : adA L a = (L, false) := by simp [adA, h, k]
theorem adA_yes {L : List Ac} {a : Ac} (h : acsB L = true) (k : acsB (insG acL L a) = true) : adA L a = (insG acL L a, true) := by simp [adA, h, k]
theorem adA_ok {L : List Ac} {a : Ac} (h : (adA L a).2 = true) : acsB L = true ∧ acsB (insG acL L a) = true ∧ (adA L a).1 = insG acL L a := by
  unfold adA at h ⊢
  by_cases h1 : acsB L = true
  · by_cases h2 : acsB (insG acL L a) = true
    · simp [h1, h2]
    · simp [h1, h2] at h
  · simp [h1] at h
theorem adA_len (L : List Ac) (a : Ac) : (adA L a).1.length ≤ 8 ∨ acsB L = true ∧ (adA L a).1 = L := by
  unfold adA
  split
  · split
    · rename_i h; exact .inl (acsB_of h).1
    · rename_i h _; exact .inr ⟨h, rfl⟩
  · exact .inl (by simp)
theorem adA_valid {L : List Ac} {a : Ac} (h : acsB L = true) : acsB (adA L a).1 = true := by
  unfold adA
  rw [if_pos h]
  split
  · rename_i k; exact k
  · exact h
theorem adA_8 (L : List Ac) (a : Ac) : (adA L a).1.length ≤ 8 := by
  rcases adA_len L a with h | ⟨h, e⟩
  · exact h
  · rw [e]; exact (acsB_of h).1
theorem name_of_lt {a b : Ac} (h : acL a b = true) : a.name ≠ b.name := fun e => by
  unfold acL at h; rw [e] at h; exact absurd rfl (less_asymm h).2
/-- the added one is found where it belongs, and cannot be added again -/
theorem adA_at {L : List Ac} {a : Ac} (h : acsB (insG acL L a) = true) : acN (insG acL L a) a.name = (plc acL L a : Int) := by
  have hp := plc_le acL L a
  rw [acN_in h, acAt_is (k := plc acL L a) (by rw [insG_len]; omega) (fun j hj => ?_) (by rw [insG_at])]
  · simp
  · rw [insG_low acL L a hj]; exact name_of_lt (plc_lt hj)
theorem adA_again {L : List Ac} {a : Ac} (h : acsB (insG acL L a) = true) : adA (insG acL L a) a = (insG acL L a, false) := by
  refine adA_no h (acsB_not fun q => ?_)
  have := (acsB_of q).2.2.1; rw [insG_again acL_ord] at this; cases this
/-- the name for a new actor -/
def cutA (w : ByteArray) : ByteArray := w.extract 0 (min w.size 7)
def digA (w : ByteArray) (d : Nat) : ByteArray := cutA w ++ ⟨#[UInt8.ofNat d]⟩
def nfD (L : List Ac) (w : ByteArray) : Nat → Nat → ByteArray
  | 0, _ => ⟨#[]⟩
  | f + 1, d => if acN L (digA w d) < 0 then digA w d else nfD L w f (d + 1)
def nfA (L : List Ac) (w : ByteArray) : ByteArray := if acsB L = true ∧ wordB w.data.toList = true then (if acN L w < 0 then w else nfD L w 8 50) else ⟨#[]⟩
theorem acsB_drop {L : List Ac} (h : acsB L = true) : acsB (L.drop 1) = true := by
  cases L with
  | nil => exact h
  | cons a L => exact acsB_tail h
theorem acsB_more {L : List Ac} (h : 0 < L.length) : acsB ([L[0]] ++ L) = false := by
  cases L with
  | nil => simp at h
  | cons a L => exact acsB_twice a L
theorem acN_range (L : List Ac) (n : ByteArray) : -1 ≤ acN L n := by
  unfold acN; split
  · exact (acAt_lo L n 0).1
  · exact Int.le_refl _
theorem acN_small (L : List Ac) (n : ByteArray) (h : L.length ≤ 9) : acN L n ≤ 100 := by
  unfold acN; split
  · have := (acAt_lo L n 0).2; omega
  · omega
theorem digA_word {w : ByteArray} {d : Nat} (h : wordB w.data.toList = true) (d0 : 50 ≤ d) (d1 : d ≤ 57) : wordB (digA w d).data.toList = true := by
  have hl := word_len h
  rw [blen] at hl
  have e : (digA w d).data.toList = w.data.toList.take (min w.size 7) ++ [UInt8.ofNat d] := by simp [digA, cutA]
  have hu : (UInt8.ofNat d).toNat = d := by rw [UInt8.toNat_ofNat']; omega
  unfold wordB at h ⊢
  simp only [Bool.and_eq_true, List.all_eq_true, decide_eq_true_eq] at h ⊢
  obtain ⟨⟨_, h2⟩, h3⟩ := h
  rw [e]
  refine ⟨⟨?_, ?_⟩, fun c m => ?_⟩
  · rw [List.length_append, List.length_take, blen]; simp; omega
  · obtain ⟨m, hm⟩ : ∃ m, min w.size 7 = m + 1 := ⟨min w.size 7 - 1, by omega⟩
    rw [hm]
    cases q : w.data.toList with
    | nil => have := blen w; rw [q] at this; simp at this; omega
    | cons c l => rw [q] at h2; simpa using h2
  · rcases List.mem_append.1 m with m | m
    · exact h3 c (List.mem_of_mem_take m)
    · have : c = UInt8.ofNat d := by simpa using m
      rw [this]; unfold wcB; rw [hu]
      have : digI (d : Int) = true := by unfold digI; simp; omega
      rw [this]; rfl
theorem nfD_got {L : List Ac} {w : ByteArray} : ∀ (f d : Nat), (nfD L w f d).size ≠ 0 → 50 ≤ d → d + f ≤ 58 → ∃ q, 50 ≤ q ∧ q ≤ 57 ∧ nfD L w f d = digA w q ∧ acN L (digA w q) < 0 := by
  intro f
  induction f with
  | zero => intro d h; exact absurd rfl h
  | succ f ih =>
    intro d h h0 h1
    by_cases q : acN L (digA w d) < 0
    · exact ⟨d, h0, by omega, by simp [nfD, q], q⟩
    · have e : nfD L w (f + 1) d = nfD L w f (d + 1) := by simp [nfD, q]
      rw [e] at h ⊢
      exact ih (d + 1) h (by omega) (by omega)
/-- a new name is a valid word that nobody has; and a word that nobody has stays -/
theorem nfA_law {L : List Ac} {w : ByteArray} (h : (nfA L w).size ≠ 0) : wordB (nfA L w).data.toList = true ∧ acN L (nfA L w) = -1 ∧ (0 ≤ acN L w ∨ nfA L w = w) := by
  have hr := acN_range L
  unfold nfA at h ⊢
  by_cases hc : acsB L = true ∧ wordB w.data.toList = true
  · rw [if_pos hc] at h ⊢
    by_cases hn : acN L w < 0
    · rw [if_pos hn] at h ⊢
      exact ⟨hc.2, by have := hr w; omega, .inr rfl⟩
    · rw [if_neg hn] at h ⊢
      obtain ⟨q, q0, q1, e, hq⟩ := nfD_got 8 50 h (by omega) (by omega)
      rw [e]
      exact ⟨digA_word hc.2 q0 q1, by have := hr (digA w q); omega, .inl (by omega)⟩
  · rw [if_neg hc] at h
    exact absurd rfl h
theorem nfA_size (L : List Ac) (w : ByteArray) : (nfA L w).size ≤ 8 := by
  by_cases h : (nfA L w).size = 0
  · omega
  · have := (word_len (nfA_law h).1).2
    rw [blen] at this; exact this
theorem word_q (s : ByteArray) (w : World) (n : Nat) (b : Bool) (h : wordB s.data.toList = b) (hs : s.size ≤ maxLen) :
    Calls Try.prog 35 #[.string s] (w.drewN n) fun e w'' => e = .returned (.bool b) ∧ ∃ m, w'' = w.drewN m := by
  rw [← h]; exact quiet_eq (word_any s _ hs)
theorem l1In_q (z lo hi : Int) (w : World) (n : Nat) (b : Bool) (h : inB z lo hi = b) :
    Calls Try.prog 38 #[.int .i64 z, .int .i64 lo, .int .i64 hi] (w.drewN n) fun e w'' => e = .returned (.bool b) ∧ ∃ m, w'' = w.drewN m := by
  rw [← h]; exact quiet_eq (l1In_any z lo hi _)
/-! The copy 'append(append(append([]T{}, s[:k]...), x), s[k:]...)': what each order of its operations has. -/
theorem own0_lit {α : Type} (ty : TypeId) (size : Nat) (enc : α → List Value) (w : World) (B : Nat) (h : B ≤ w.heap.size) : OwnG ty size enc (w.alloc (.cells #[] ty)) B (.slice (some ⟨w.heap.size, 0, none⟩) 0 0) ([] : List α) := by
  have := World.ownsRow_lit (e := ty) (size := size) (base := B) w #[] 0 h (by simp) (by simp)
  exact this
theorem own0_a {α : Type} {ty : TypeId} {size : Nat} {enc : α → List Value} (w4 : World) (B : Nat) (hB : B ≤ w4.heap.size) : OwnG ty size enc (w4.alloc (.cells #[] ty)).drew B (.slice (some ⟨w4.heap.size, 0, none⟩) 0 0) ([] : List α) :=
  OwnG.grown (own0_lit ty size enc w4 B hB) (Below.drew (Below.refl _ _))
theorem own0_b {α : Type} {ty : TypeId} {size : Nat} {enc : α → List Value} (w4 : World) (B : Nat) (hB : B ≤ w4.heap.size) (o : Obj) : OwnG ty size enc ((w4.alloc (.cells #[] ty)).alloc o).drew B (.slice (some ⟨w4.heap.size, 0, none⟩) 0 0) ([] : List α) :=
  OwnG.grown (own0_lit ty size enc w4 B hB) (Below.drew ((Below.refl _ _).alloc (Nat.le_refl _) _))
theorem own0_c {α : Type} {ty : TypeId} {size : Nat} {enc : α → List Value} (w4 : World) (B : Nat) (hB : B ≤ w4.heap.size) (o : Obj) : OwnG ty size enc ((w4.alloc o).alloc (.cells #[] ty)).drew B (.slice (some ⟨w4.heap.size + 1, 0, none⟩) 0 0) ([] : List α) := by
  have := OwnG.grown (own0_lit ty size enc (w4.alloc o) B (by simp; omega)) (Below.drew (Below.refl _ _))
  have e : (w4.alloc o).heap.size = w4.heap.size + 1 := by simp
  rw [e] at this; exact this
theorem belN_1 (w4 : World) (o : Obj) : Below w4.heap.size w4 (w4.alloc o).drew := Below.drew ((Below.refl _ _).alloc (Nat.le_refl _) _)
theorem belN_2 (w4 : World) (o o' : Obj) : Below w4.heap.size w4 ((w4.alloc o).alloc o').drew := Below.drew (((Below.refl _ _).alloc (Nat.le_refl _) _).alloc (by simp) _)
theorem rd1_lit {α : Type} {enc : α → List Value} {size : Nat} (he : ∀ x, (enc x).length = size) (w : World) (i : α) (cs : Array Value) (hcs : cs = (enc i).toArray) (t : TypeId) : RdG enc (w.alloc (.cells cs t)) (.slice (some ⟨w.heap.size, 0, none⟩) 1 1) [i] := by
  subst hcs
  refine ⟨_, 1, rfl, by simp, by unfold maxLen; omega, .inr ⟨w.heap.size, 0, rfl, by simp, fun j u hj => ?_⟩⟩
  rw [Nat.zero_add, World.cell?_alloc_new]
  simpa using hj
theorem lit1_b {α : Type} {enc : α → List Value} {size : Nat} (he : ∀ x, (enc x).length = size) (w4 : World) (o : Obj) (i : α) (cs : Array Value) (hcs : cs = (enc i).toArray) (t : TypeId) : RdG enc ((w4.alloc o).alloc (.cells cs t)).drew (.slice (some ⟨w4.heap.size + 1, 0, none⟩) 1 1) [i] := by
  have := (rd1_lit he (w4.alloc o) i cs hcs t).below (Below.drew (Below.refl _ _))
  have e : (w4.alloc o).heap.size = w4.heap.size + 1 := by simp
  rw [e] at this; exact this
theorem lit1_c {α : Type} {enc : α → List Value} {size : Nat} (he : ∀ x, (enc x).length = size) (w4 : World) (o : Obj) (i : α) (cs : Array Value) (hcs : cs = (enc i).toArray) (t : TypeId) : RdG enc ((w4.alloc (.cells cs t)).alloc o).drew (.slice (some ⟨w4.heap.size, 0, none⟩) 1 1) [i] :=
  (rd1_lit he w4 i cs hcs t).below (Below.drew ((Below.refl _ _).alloc (Nat.le_refl _) _))
theorem rdG_kept {α : Type} {enc : α → List Value} {w w' : World} {g q : Nat} {i : α} (h : RdG enc w (.slice (some ⟨q, 0, none⟩) 1 1) [i]) (hg : w.grownBy w' (some g)) (hne : q ≠ g) : RdG enc w' (.slice (some ⟨q, 0, none⟩) 1 1) [i] := by
  obtain ⟨b, o, c, hv, _, hc, hb, h4⟩ := h.some (by simp)
  obtain ⟨⟨rfl, rfl⟩, rfl⟩ : (q = b ∧ 0 = o) ∧ 1 = c := by simpa using hv
  exact ⟨_, 1, rfl, by simp, hc, .inr ⟨q, 0, rfl, Nat.lt_of_lt_of_le hb hg.size, fun j u hj => by rw [kept_cell hg q _ hne hb]; exact h4 j u hj⟩⟩
/-- the rest behind place k, wherever an empty one points -/
theorem rdG_restA {α : Type} {enc : α → List Value} {size : Nat} (he : ∀ x, (enc x).length = size) {w : World} {b o c : Nat} {L : List α} (h : RdG enc w (.slice (some ⟨b, o, none⟩) L.length c) L) (k : Nat) (hk : k ≤ L.length) (A' : Option Addr) (n' c' : Nat)
    (hA : k < L.length → A' = some ⟨b, o + k * size, none⟩) (hn' : n' = L.length - k) (hc : n' ≤ c') (hc' : c' ≤ c) : RdG enc w (.slice A' n' c') (L.drop k) := by
  by_cases hlt : k < L.length
  · rw [hA hlt]
    exact rdG_drop he h (by intro e; rw [e] at hlt; simp at hlt) k hlt _ _ _ rfl hn' hc hc'
  · obtain ⟨_, c2, hv, _, hm, _⟩ := h
    obtain ⟨_, rfl⟩ : _ ∧ c = c2 := by simpa using hv
    have e : n' = 0 := by omega
    subst e
    exact rdG_none k (by omega) (by omega)
theorem rdG_nil0 {α : Type} {enc : α → List Value} {w : World} {A : Option Addr} {c : Nat} (hc : c ≤ maxLen) : RdG enc w (.slice A 0 c) ([] : List α) := ⟨A, c, rfl, by simp, hc, .inl rfl⟩
theorem own_below' {α : Type} {ty : TypeId} {size : Nat} {enc : α → List Value} {W w w' : World} {v : Value} {L : List α} (hown : OwnG ty size enc w W.heap.size v L) (hb : Below W.heap.size W w) (hg : w.grownBy w' v.ownBlock) : Below W.heap.size W w' :=
  hb.grown hg hb.size (fun k hk => hown.ge k hk)
/-- a Actor as a value -/
def aggAc (i : Ac) : Value := .agg #[.string i.name, .string i.feed, .int .i64 i.sign]
def encAc (i : Ac) : List Value := [.string i.name, .string i.feed, .int .i64 i.sign]
theorem encAc_len (i : Ac) : (encAc i).length = 3 := rfl
theorem encAc_one (i : Ac) (u : Value) (h : u ∈ encAc i) : u.oneCell' = true := by
  simp [encAc] at h
  rcases h with rfl | rfl | rfl <;> rfl
/-- what comes in: any Actor -/
def InAc (i : Ac) : Prop := i.name.size ≤ maxLen ∧ i.feed.size ≤ maxLen ∧ (Lit.int .i64 i.sign).wf = true
def Sz1Ac (i : Ac) : Prop := i.name.size ≤ 1048576 ∧ i.feed.size ≤ 1048576
def FitAc (i : Ac) : Prop := i.name.size ≤ 100000000 ∧ i.feed.size ≤ 100000000
/-- a short one, as the draws make them -/
def ShAc (i : Ac) : Prop := ShS i.name ∧ ShS i.feed ∧ ShI i.sign
theorem fitAc_sz {i : Ac} (h : Sz1Ac i) : FitAc i := by
  unfold Sz1Ac at h; unfold FitAc; omega
theorem fitAc_sh {i : Ac} (h : ShAc i) : FitAc i := by
  simp only [ShAc, FitAc, ShS] at h ⊢
  omega
def FitAcs (L : List Ac) : Prop := ∀ e ∈ L, FitAc e
theorem rdAc_cells {w : World} {b o : Nat} {L : List Ac} (h : ∀ j u, (L.flatMap encAc)[j]? = some u → w.cell? ⟨b, o + j, none⟩ = some u) {k : Nat} (hk : k < L.length) :
    w.cell? ⟨b, o + k * 3, none⟩ = some (.string L[k].name) ∧ w.cell? ⟨b, o + k * 3 + 1, none⟩ = some (.string L[k].feed) ∧ w.cell? ⟨b, o + k * 3 + 2, none⟩ = some (.int .i64 L[k].sign) := by
  refine ⟨?_, ?_, ?_⟩
  · exact h (k * 3) _ (flat_get encAc_len L k hk 0 (by omega))
  · have := h (k * 3 + 1) _ (flat_get encAc_len L k hk 1 (by omega)); rw [← Nat.add_assoc] at this; exact this
  · have := h (k * 3 + 2) _ (flat_get encAc_len L k hk 2 (by omega)); rw [← Nat.add_assoc] at this; exact this
theorem rdAc_at {w wr : World} {b o : Nat} {L : List Ac} (h : ∀ k (hk : k < L.length), w.cell? ⟨b, o + k * 3, none⟩ = some (.string L[k].name) ∧ w.cell? ⟨b, o + k * 3 + 1, none⟩ = some (.string L[k].feed) ∧ w.cell? ⟨b, o + k * 3 + 2, none⟩ = some (.int .i64 L[k].sign)) (hb : b < w.heap.size) (hB : Below w.heap.size w wr) {k : Nat} (hk : k < L.length) :
    wr.cell? ⟨b, o + k * 3, none⟩ = some (.string L[k].name) ∧ wr.cell? ⟨b, o + k * 3 + 1, none⟩ = some (.string L[k].feed) ∧ wr.cell? ⟨b, o + k * 3 + 2, none⟩ = some (.int .i64 L[k].sign) := by
  obtain ⟨c0, c1, c2⟩ := h k hk
  exact ⟨by rw [hB.cell (p := ⟨b, o + k * 3, none⟩) hb]; exact c0, by rw [hB.cell (p := ⟨b, o + k * 3 + 1, none⟩) hb]; exact c1, by rw [hB.cell (p := ⟨b, o + k * 3 + 2, none⟩) hb]; exact c2⟩
/-- a literal of one -/
theorem rdAc_lit1 (w : World) (i : Ac) (t : TypeId) : RdG encAc (w.alloc (.cells #[.string i.name, .string i.feed, .int .i64 i.sign] t)) (.slice (some ⟨w.heap.size, 0, none⟩) 1 1) [i] := by
  refine ⟨_, 1, rfl, by simp, by unfold maxLen; omega, .inr ⟨w.heap.size, 0, rfl, by simp, fun j u hj => ?_⟩⟩
  rw [Nat.zero_add, World.cell?_alloc_new]
  simpa [encAc] using hj
def MaxAc (L : List Ac) : Prop := ∀ e ∈ L, InAc e
def SzAcs (L : List Ac) : Prop := L.length ≤ 1048576 ∧ ∀ e ∈ L, Sz1Ac e
theorem fitAc_szs {L : List Ac} (h : SzAcs L) : FitAcs L := fun e m => fitAc_sz (h.2 e m)
theorem lenAc_szs {L : List Ac} (h : SzAcs L) : L.length ≤ 1048576 := h.1
/-- an argument that is a list -/
def ArgLAc (w : World) (A : Option Addr) (n c : Nat) (L : List Ac) : Prop := L.length = n ∧ RdG encAc w (.slice A n c) L ∧ MaxAc L
/-- marked ones -/
def markAc (n m : Nat) : List Ac := (List.range n).map fun i => ⟨(mlT (m + 3 * i)), (mlT ((m + 3 * i) + 1)), ((((m + 3 * i) : Nat) : Int) + 1 + 1)⟩
theorem markAc_len (n m : Nat) : (markAc n m).length = n := by simp [markAc]
theorem markAc_get (n m i : Nat) (h : i < (markAc n m).length) : (markAc n m)[i] = ⟨(mlT (m + 3 * i)), (mlT ((m + 3 * i) + 1)), ((((m + 3 * i) : Nat) : Int) + 1 + 1)⟩ := by simp [markAc]
end Go.Proofs.Ythniiknhbhoncaa
