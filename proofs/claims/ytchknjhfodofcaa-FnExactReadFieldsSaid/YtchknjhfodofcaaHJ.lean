/-
  The verifier's own text: SrtMath FldMath TFd LFd EFd MFd FlMore.
-/
import Derived.Test.YtchknjhfodofcaaRows
import Derived.Test.YtchknjhfodofcaaHC
import Derived.Test.YtchknjhfodofcaaHA
import Derived.Test.YtchknjhfodofcaaGa
import Derived.Test.YtchknjhfodofcaaHG
import Derived.Test.YtchknjhfodofcaaGn
import Derived.Test.YtchknjhfodofcaaGb
import Derived.Lib.SmallJoins
import Derived.Test.YtchknjhfodofcaaGq
import Derived.BigFrame
import Derived.Deep.RegionHeld3
import Derived.Test.YtchknjhfodofcaaGz
import Derived.WalkKit
import Derived.ProofKit
import Derived.Below
import Derived.Lib.Hide
import Derived.Outline
import Derived.BigQuiet
import Derived.Deep.QuietTactic
import Derived.Deep.Draws
import Derived.Laws.OwnMore
import Derived.Laws.Rows
import Derived.WalkSpells
import Derived.Deep.RegionWith
namespace Go.Proofs.Ytchknjhfodofcaa
open Go.RowKit
set_option linter.unusedVariables false
/-! Sorting by insertion, over any strict order. -/
theorem insG_perm {α : Type} (lt : α → α → Bool) (L : List α) (a : α) : (insG lt L a).Perm (a :: L) := by
  unfold insG
  have h := List.perm_middle (a := a) (l₁ := L.take (plc lt L a)) (l₂ := L.drop (plc lt L a))
  rwa [List.take_append_drop] at h
def srG {α : Type} (lt : α → α → Bool) (L : List α) : List α := L.foldl (insG lt) []
theorem foldG_perm {α : Type} (lt : α → α → Bool) : ∀ (L out : List α), (L.foldl (insG lt) out).Perm (L ++ out) := by
  intro L
  induction L with
  | nil => intro out; exact List.Perm.refl _
  | cons a L ih =>
    intro out
    rw [List.foldl_cons]
    refine (ih _).trans ?_
    exact (List.Perm.append_left L (insG_perm lt out a)).trans (List.perm_middle.trans (by rw [List.cons_append]))
theorem srG_perm {α : Type} (lt : α → α → Bool) (L : List α) : (srG lt L).Perm L := by have := foldG_perm lt L []; rwa [List.append_nil] at this
theorem srG_len {α : Type} (lt : α → α → Bool) (L : List α) : (srG lt L).length = L.length := (srG_perm lt L).length_eq
theorem srG_mem {α : Type} {lt : α → α → Bool} {L : List α} {x : α} : x ∈ srG lt L ↔ x ∈ L := (srG_perm lt L).mem_iff
theorem srG_next {α : Type} (lt : α → α → Bool) {L : List α} {k : Nat} (h : k < L.length) : srG lt (L.take (k + 1)) = insG lt (srG lt (L.take k)) L[k] := by
  unfold srG; rw [List.take_succ_eq_append_getElem h, List.foldl_append]; rfl
theorem insG_asc {α : Type} {lt : α → α → Bool} (o : Ord lt) {L : List α} {a : α} (h : ascB lt L = true) (c : ∀ y ∈ L, lt y a = true ∨ lt a y = true) : ascB lt (insG lt L a) = true := by
  have hp := plc_le lt L a
  have hgt : ∀ i (hi : i < L.length), plc lt L a ≤ i → lt a L[i] = true := fun i hi hpi => by
    have h1 := plc_ge (lt := lt) (L := L) (a := a) (by omega)
    have h2 : lt a (L[plc lt L a]'(by omega)) = true := by
      rcases c (L[plc lt L a]'(by omega)) (List.getElem_mem _) with q | q
      · rw [h1] at q; cases q
      · exact q
    by_cases e : plc lt L a = i
    · subst e; exact h2
    · exact o.tra _ _ _ h2 (asc_get h (by omega) hi)
  unfold insG
  rw [ascB_iff, List.pairwise_append, List.pairwise_cons]
  refine ⟨(ascB_iff.1 h).sublist (List.take_sublist _ _), ⟨fun y m => ?_, (ascB_iff.1 h).sublist (List.drop_sublist _ _)⟩, fun x mx y my => ?_⟩
  · obtain ⟨i, hi, rfl⟩ := List.getElem_of_mem m
    rw [List.length_drop] at hi
    rw [List.getElem_drop]
    exact hgt _ (by omega) (by omega)
  · obtain ⟨i, hi, rfl⟩ := List.getElem_of_mem mx
    rw [List.length_take] at hi
    rw [List.getElem_take]
    have h1 : lt (L[i]'(by omega)) a = true := plc_lt (by omega)
    rcases List.mem_cons.1 my with rfl | my
    · exact h1
    · obtain ⟨j, hj, rfl⟩ := List.getElem_of_mem my
      rw [List.length_drop] at hj
      rw [List.getElem_drop]
      exact o.tra _ _ _ h1 (hgt _ (by omega) (by omega))
/-- any two of a list can be compared -/
def Cmp {α : Type} (lt : α → α → Bool) (L : List α) : Prop := L.Pairwise fun a b => lt a b = true ∨ lt b a = true
theorem cmp_take {α : Type} {lt : α → α → Bool} {L : List α} (h : Cmp lt L) {k : Nat} (hk : k < L.length) : ∀ y ∈ L.take k, lt y L[k] = true ∨ lt L[k] y = true := by
  intro y m
  obtain ⟨j, hj, rfl⟩ := List.getElem_of_mem m
  rw [List.length_take] at hj
  rw [List.getElem_take]
  exact (List.pairwise_iff_getElem.1 h) j k (by omega) hk (by omega)
theorem srG_asc {α : Type} {lt : α → α → Bool} (o : Ord lt) {L : List α} (h : Cmp lt L) : ∀ k, k ≤ L.length → ascB lt (srG lt (L.take k)) = true := by
  intro k
  induction k with
  | zero => intro _; simp [srG, ascB]
  | succ k ih =>
    intro hk
    rw [srG_next lt (by omega)]
    exact insG_asc o (ih (by omega)) (fun y m => cmp_take h (by omega) y (srG_mem.1 m))
theorem srG_all {α : Type} {lt : α → α → Bool} (o : Ord lt) {L : List α} (h : Cmp lt L) : ascB lt (srG lt L) = true := by
  have := srG_asc o h L.length (Nat.le_refl _); rwa [List.take_length] at this
/-- ascending lists of the same elements are the same -/
theorem asc_uniq {α : Type} {lt : α → α → Bool} (o : Ord lt) : ∀ {L M : List α}, L.Perm M → ascB lt L = true → ascB lt M = true → L = M := by
  intro L
  induction L with
  | nil => intro M p _ _; exact (List.perm_nil.1 p.symm).symm
  | cons x L ih =>
    intro M p hL hM
    cases M with
    | nil => exact absurd (List.perm_nil.1 p) (by simp)
    | cons y M =>
      have hxy : x = y := by
        have hx : x ∈ y :: M := p.subset (by simp)
        have hy : y ∈ x :: L := p.symm.subset (by simp)
        rcases List.mem_cons.1 hx with e | mx
        · exact e
        · rcases List.mem_cons.1 hy with e | my
          · exact e.symm
          · have h1 := List.rel_of_pairwise_cons (ascB_iff.1 hM) mx
            have h2 := List.rel_of_pairwise_cons (ascB_iff.1 hL) my
            have := o.tra _ _ _ h1 h2
            rw [o.irr] at this; cases this
      subst hxy
      rw [ih (List.Perm.cons_inv p) (asc_tail hL) (asc_tail hM)]
theorem cmp_perm {α : Type} {lt : α → α → Bool} {L M : List α} (p : L.Perm M) (h : Cmp lt L) : Cmp lt M := p.pairwise h (fun q => q.symm)
theorem asc_cmp {α : Type} {lt : α → α → Bool} {L : List α} (h : ascB lt L = true) : Cmp lt L := (ascB_iff.1 h).imp fun q => .inl q
/-- the order of what is sorted does not matter -/
theorem srG_perm_eq {α : Type} {lt : α → α → Bool} (o : Ord lt) {L M : List α} (p : L.Perm M) (h : Cmp lt L) : srG lt L = srG lt M :=
  asc_uniq o ((srG_perm lt L).trans (p.trans (srG_perm lt M).symm)) (srG_all o h) (srG_all o (cmp_perm p h))
theorem srG_same {α : Type} {lt : α → α → Bool} (o : Ord lt) {L : List α} (h : ascB lt L = true) : srG lt L = L :=
  asc_uniq o (srG_perm lt L) (srG_all o (asc_cmp h)) h
/-- the place, looked for from the end -/
theorem plc_back {α : Type} {lt : α → α → Bool} (o : Ord lt) {L : List α} {a : α} (h : ascB lt L = true) {p : Nat} (hp : p ≤ L.length) (h1 : ∀ i (hi : i < L.length), p ≤ i → lt a L[i] = true) (h2 : ∀ h0 : 0 < p, lt a (L[p - 1]'(by omega)) = false) (c : ∀ y ∈ L, lt y a = true ∨ lt a y = true) : plc lt L a = p := by
  refine plc_is hp (fun j hj hjp => ?_) (fun hl => ?_)
  · have h3 : lt (L[p - 1]'(by omega)) a = true := by
      rcases c (L[p - 1]'(by omega)) (List.getElem_mem _) with q | q
      · exact q
      · rw [h2 (by omega)] at q; cases q
    by_cases e : j = p - 1
    · subst e; exact h3
    · exact o.tra _ _ _ (asc_get h (j := j) (k := p - 1) (by omega) (by omega)) h3
  · rcases q : lt L[p] a with _ | _
    · rfl
    · have := o.tra _ _ _ q (h1 p hl (Nat.le_refl _))
      rw [o.irr] at this; cases this
/-- a field -/
structure Fd where
  name : ByteArray
  val : Int
instance fdDec : DecidableEq Fd := fun a b => if h : a.name = b.name ∧ a.val = b.val then isTrue (by obtain ⟨a0, a1⟩ := a; obtain ⟨b0, b1⟩ := b; obtain ⟨h0, h1⟩ := h; simp only at h0 h1; subst h0; subst h1; rfl) else isFalse (by rintro rfl; exact h ⟨rfl, rfl⟩)
def flB (a : Fd) : Bool := wordB a.name.data.toList && decide (0 ≤ a.val ∧ a.val ≤ 1000000000)
theorem flB_of {a : Fd} (h : flB a = true) : wordB a.name.data.toList = true ∧ 0 ≤ a.val ∧ a.val ≤ 1000000000 := by
  unfold flB at h; simp only [Bool.and_eq_true, decide_eq_true_eq] at h; exact h
theorem flB_word {a : Fd} (h : wordB a.name.data.toList = false) : flB a = false := by unfold flB; rw [h]; rfl
theorem flB_val {a : Fd} (h : inB a.val 0 1000000000 = false) : flB a = false := by unfold flB; unfold inB at h; rw [h]; simp
theorem flB_all {a : Fd} (h : wordB a.name.data.toList = true) (k : inB a.val 0 1000000000 = true) : flB a = true := by unfold flB; unfold inB at k; rw [h, k]; rfl
/-- by names -/
def flL (a b : Fd) : Bool := Op.bytesLess a.name.data.toList b.name.data.toList
theorem flL_ord : Ord flL := ⟨fun a => by
  unfold flL
  rcases q : Op.bytesLess a.name.data.toList a.name.data.toList with _ | _
  · rfl
  · exact absurd rfl (less_asymm q).2, fun a b c h k => less_tra h k⟩
/-- at most six fields, all valid, with different names -/
def flsB (L : List Fd) : Bool := decide (L.length ≤ 6) && L.all flB && decide ((L.map Fd.name).Nodup)
theorem flsB_of {L : List Fd} (h : flsB L = true) : L.length ≤ 6 ∧ (∀ a ∈ L, flB a = true) ∧ (L.map Fd.name).Nodup := by
  unfold flsB at h; simp only [Bool.and_eq_true, decide_eq_true_eq, List.all_eq_true] at h; exact ⟨h.1.1, h.1.2, h.2⟩
theorem flsB_mk {L : List Fd} (a : L.length ≤ 6) (b : ∀ i ∈ L, flB i = true) (d : (L.map Fd.name).Nodup) : flsB L = true := by
  unfold flsB; simp only [Bool.and_eq_true, decide_eq_true_eq, List.all_eq_true]; exact ⟨⟨a, b⟩, d⟩
theorem flsB_not {L : List Fd} (h : flsB L = true → False) : flsB L = false := by
  rcases q : flsB L with _ | _
  · rfl
  · exact (h q).elim
theorem flsB_item {L : List Fd} {k : Nat} (h : k < L.length) (b : flB L[k] = false) : flsB L = false := flsB_not fun q => by
  have := (flsB_of q).2.1 _ (List.getElem_mem h); rw [b] at this; cases this
theorem flsB_name {L : List Fd} {j k : Nat} (hj : j < k) (h : k < L.length) (e : L[j].name = L[k].name) : flsB L = false := flsB_not fun q => by
  have := (List.pairwise_iff_getElem.1 (flsB_of q).2.2) j k (by rw [List.length_map]; omega) (by rw [List.length_map]; omega) hj
  rw [List.getElem_map, List.getElem_map] at this
  exact absurd e this
theorem flsB_nil : flsB [] = true := by decide
theorem flsB_len {L : List Fd} (h : 6 < L.length) : flsB L = false := flsB_not fun q => by have := (flsB_of q).1; omega
/-- the first k are well -/
def PreD (L : List Fd) (k : Nat) : Prop := (∀ i ∈ L.take k, flB i = true) ∧ ((L.take k).map Fd.name).Nodup
theorem preD_zero (L : List Fd) : PreD L 0 := ⟨by simp, by simp⟩
theorem preD_next {L : List Fd} {k : Nat} (h : k < L.length) (p : PreD L k) (b : flB L[k] = true) (d : ∀ j (hj : j < k), (L[j]'(by omega)).name ≠ L[k].name) : PreD L (k + 1) := by
  have e : L.take (k + 1) = L.take k ++ [L[k]] := List.take_succ_eq_append_getElem h
  refine ⟨fun i m => ?_, ?_⟩
  · rw [e] at m
    rcases List.mem_append.1 m with m | m
    · exact p.1 i m
    · have : i = L[k] := by simpa using m
      rw [this]; exact b
  · rw [e, List.map_append, List.nodup_append]
    refine ⟨p.2, by simp, fun a ha c hc => ?_⟩
    have hc' : c = L[k].name := by simpa using hc
    obtain ⟨i, hi, rfl⟩ := List.mem_map.1 ha
    obtain ⟨j, hj, rfl⟩ := List.getElem_of_mem hi
    have hjk : j < k := by rw [List.length_take] at hj; omega
    rw [List.getElem_take, hc']
    exact d j hjk
theorem preD_end {L : List Fd} {k : Nat} (h : L.length ≤ k) (p : PreD L k) : decide ((L.length : Int) ≤ 6) = flsB L := by
  unfold PreD at p
  rw [List.take_of_length_le h] at p
  by_cases a : L.length ≤ 6
  · rw [flsB_mk a p.1 p.2]; exact decide_eq_true (by omega)
  · rw [flsB_len (by omega)]; exact decide_eq_false (by omega)
theorem flsB_tail {a : Fd} {L : List Fd} (h : flsB (a :: L) = true) : flsB L = true := by
  obtain ⟨h1, h2, h4⟩ := flsB_of h
  rw [List.map_cons] at h4
  exact flsB_mk (by simp at h1; omega) (fun i m => h2 i (List.mem_cons_of_mem _ m)) (List.nodup_cons.1 h4).2
theorem flsB_drop {L : List Fd} (h : flsB L = true) : flsB (L.drop 1) = true := by
  cases L with
  | nil => exact h
  | cons a L => exact flsB_tail h
theorem flsB_more {L : List Fd} (h : 0 < L.length) : flsB ([L[0]] ++ L) = false := by
  cases L with
  | nil => simp at h
  | cons a L => exact flsB_name (L := [a] ++ (a :: L)) (j := 0) (k := 1) (by omega) (by simp) rfl
theorem flsB_perm {L M : List Fd} (p : L.Perm M) (h : flsB L = true) : flsB M = true := by
  obtain ⟨h1, h2, h3⟩ := flsB_of h
  exact flsB_mk (by rw [← p.length_eq]; exact h1) (fun i m => h2 i (p.mem_iff.2 m)) ((p.map _).nodup_iff.1 h3)
theorem less_tot {a b : List UInt8} (h : a ≠ b) (h' : Op.bytesLess a b = false) : Op.bytesLess b a = true := by
  rw [bytesLess_eq] at h' ⊢
  have h' := of_decide_eq_false h'
  refine decide_eq_true ?_
  rcases List.le_total a b with k | k
  · rcases List.le_iff_lt_or_eq.1 k with q | q
    · exact absurd q h'
    · exact absurd q h
  · rcases List.le_iff_lt_or_eq.1 k with q | q
    · exact q
    · exact absurd q.symm h
theorem fl_cmp {L : List Fd} (h : flsB L = true) : Cmp flL L := by
  have h3 := (flsB_of h).2.2
  unfold List.Nodup at h3
  rw [List.pairwise_map] at h3
  refine h3.imp fun {a b} q => ?_
  unfold flL
  have hne : a.name.data.toList ≠ b.name.data.toList := fun e => q (ByteArray.ext (Array.toList_inj.1 e))
  rcases z : Op.bytesLess a.name.data.toList b.name.data.toList with _ | _
  · exact .inr (less_tot hne z)
  · exact .inl rfl
/-- by ascending names -/
def soF (L : List Fd) : List Fd := if flsB L = true then srG flL L else []
theorem soF_in {L : List Fd} (h : flsB L = true) : soF L = srG flL L := by simp [soF, h]
theorem soF_out {L : List Fd} (h : flsB L = false) : soF L = [] := by simp [soF, h]
theorem soF_valid (L : List Fd) : flsB (soF L) = true := by
  unfold soF; split
  · rename_i h; exact flsB_perm (srG_perm flL L).symm h
  · exact flsB_nil
theorem soF_asc (L : List Fd) : ascB flL (soF L) = true := by
  unfold soF; split
  · rename_i h; exact srG_all flL_ord (fl_cmp h)
  · simp [ascB]
theorem soF_same {L : List Fd} (h : flsB L = true) (a : ascB flL L = true) : soF L = L := by rw [soF_in h, srG_same flL_ord a]
theorem soF_perm {L M : List Fd} (p : L.Perm M) (h : flsB L = true) : soF L = soF M := by
  rw [soF_in h, soF_in (flsB_perm p h), srG_perm_eq flL_ord p (fl_cmp h)]
theorem soF_len {L : List Fd} (h : flsB L = true) : (soF L).length = L.length := by rw [soF_in h, srG_len]
theorem soF_6 (L : List Fd) : (soF L).length ≤ 6 := (flsB_of (soF_valid L)).1
/-- their text -/
def ftI (a : Fd) : List UInt8 := a.name.data.toList ++ 61 :: markT a.val
def ftT : List Fd → List UInt8
  | [] => []
  | [a] => ftI a
  | a :: b :: r => ftI a ++ 59 :: ftT (b :: r)
theorem ftT_cons {a : Fd} {L : List Fd} (h : L ≠ []) : ftT (a :: L) = ftI a ++ 59 :: ftT L := by
  cases L with
  | nil => exact absurd rfl h
  | cons b r => rfl
theorem ftT_snoc : ∀ (L : List Fd) (a : Fd), ftT (L ++ [a]) = if L = [] then ftI a else ftT L ++ 59 :: ftI a := by
  intro L
  induction L with
  | nil => intro a; rfl
  | cons b L ih =>
    intro a
    rw [if_neg (by simp), List.cons_append]
    by_cases h : L = []
    · subst h; rfl
    · rw [ftT_cons (by simp), ftT_cons h, ih, if_neg h]; simp
theorem ftI_len {a : Fd} (h : flB a = true) : (ftI a).length ≤ 15 := by
  have h1 := word_len (flB_of h).1
  have h2 := markT_len a.val
  unfold ftI; rw [List.length_append, List.length_cons]; omega
theorem ftT_len : ∀ {L : List Fd}, (∀ a ∈ L, flB a = true) → (ftT L).length ≤ 16 * L.length := by
  intro L
  induction L with
  | nil => intro _; simp [ftT]
  | cons a L ih =>
    intro h
    have h1 := ftI_len (h a (by simp))
    have h2 := ih (fun b m => h b (List.mem_cons_of_mem _ m))
    by_cases e : L = []
    · subst e; show (ftI a).length ≤ _; simp; omega
    · rw [ftT_cons e, List.length_append, List.length_cons, List.length_cons]; omega
/-- reading: pieces up to semicolons, parted at the first = -/
def fdS (l : List UInt8) : Fd := ⟨bs (l.takeWhile (fun c => c != 61)), readM ((l.dropWhile (fun c => c != 61)).drop 1)⟩
def rdP : Nat → List UInt8 → Option (List Fd)
  | 0, _ => some []
  | f + 1, s => if s = [] then some [] else if (61 : UInt8) ∈ s.takeWhile (fun c => c != 59) then (rdP f (s.drop ((s.takeWhile (fun c => c != 59)).length + 1))).map (fun L => fdS (s.takeWhile (fun c => c != 59)) :: L) else none
theorem tw_app {c : UInt8} : ∀ {u : List UInt8} (t : List UInt8), c ∉ u → (u ++ c :: t).takeWhile (fun x => x != c) = u ∧ (u ++ c :: t).dropWhile (fun x => x != c) = c :: t := by
  intro u
  induction u with
  | nil => intro t _; simp
  | cons x u ih =>
    intro t h
    have h1 : (x != c) = true := by
      rw [bne_iff_ne]; exact fun e => h (by simp [e])
    obtain ⟨a, b⟩ := ih t (fun m => h (List.mem_cons_of_mem _ m))
    rw [List.cons_append, List.takeWhile_cons, List.dropWhile_cons, h1]
    simp only [if_true, a, b]
    exact ⟨trivial, trivial⟩
theorem tw_all {c : UInt8} : ∀ {u : List UInt8}, c ∉ u → u.takeWhile (fun x => x != c) = u := by
  intro u
  induction u with
  | nil => intro _; rfl
  | cons x u ih =>
    intro h
    have h1 : (x != c) = true := by
      rw [bne_iff_ne]; exact fun e => h (by simp [e])
    rw [List.takeWhile_cons, h1, ih (fun m => h (List.mem_cons_of_mem _ m))]; rfl
theorem wd_no {l : List UInt8} (h : wordB l = true) (c : UInt8) (hc : wcB c = false) : c ∉ l := by
  unfold wordB at h
  simp only [Bool.and_eq_true, List.all_eq_true] at h
  intro m
  have := h.2 _ m
  rw [hc] at this; cases this
theorem mk_no {n : Int} (c : UInt8) (hc : digOk c = false) : c ∉ markT n := by
  intro m
  by_cases h : n < 0 ∨ 1000000000 < n
  · rw [markT_out h] at m; simp at m
  · obtain ⟨q, rfl⟩ : ∃ q : Nat, n = q := ⟨n.toNat, by omega⟩
    rw [markT_in (by omega)] at m
    have := List.all_eq_true.1 (markL_all q) _ m
    rw [hc] at this; cases this
theorem ftI_no59 {a : Fd} (h : flB a = true) : (59 : UInt8) ∉ ftI a := by
  unfold ftI
  intro m
  rcases List.mem_append.1 m with m | m
  · exact wd_no (flB_of h).1 59 (by decide) m
  · rcases List.mem_cons.1 m with m | m
    · revert m; decide
    · exact mk_no 59 (by decide) m
theorem fdS_text {a : Fd} (h : flB a = true) : fdS (ftI a) = a := by
  obtain ⟨h1, h2, h3⟩ := flB_of h
  obtain ⟨q1, q2⟩ := tw_app (c := 61) (u := a.name.data.toList) (markT a.val) (wd_no h1 61 (by decide))
  unfold fdS ftI
  rw [q1, q2]
  have e : readM ((61 :: markT a.val).drop 1) = a.val := by
    obtain ⟨m, hm⟩ : ∃ q : Nat, a.val = q := ⟨a.val.toNat, by omega⟩
    rw [List.drop_succ_cons, List.drop_zero, hm, markT_in (by omega), readM_markL (by omega)]
  rw [e]
  have : bs a.name.data.toList = a.name := by apply ByteArray.ext; apply Array.toList_inj.1; rw [bs_data]
  rw [this]
theorem rdP_nil (f : Nat) : rdP f [] = some [] := by cases f <;> simp [rdP]
theorem rdP_text : ∀ {L : List Fd}, (∀ a ∈ L, flB a = true) → ∀ f, (ftT L).length ≤ f → rdP f (ftT L) = some L := by
  intro L
  induction L with
  | nil => intro _ f _; exact rdP_nil f
  | cons a L ih =>
    intro h f hf
    have ha := h a (by simp)
    have h61 : (61 : UInt8) ∈ ftI a := by unfold ftI; simp
    by_cases e : L = []
    · subst e
      have hs : ftT [a] = ftI a := rfl
      rw [hs] at hf ⊢
      have hne : ftI a ≠ [] := fun q => by rw [q] at h61; simp at h61
      cases f with
      | zero => exact absurd (List.length_eq_zero_iff.1 (by omega)) hne
      | succ f =>
        unfold rdP
        rw [if_neg hne, tw_all (ftI_no59 ha), if_pos h61, List.drop_eq_nil_of_le (by omega), rdP_nil, fdS_text ha]; rfl
    · rw [ftT_cons e] at hf ⊢
      have hne : ftI a ++ 59 :: ftT L ≠ [] := by simp
      cases f with
      | zero => simp at hf
      | succ f =>
        have hl : (ftT L).length ≤ f := by rw [List.length_append, List.length_cons] at hf; omega
        obtain ⟨q1, _⟩ := tw_app (c := 59) (u := ftI a) (ftT L) (ftI_no59 ha)
        have hd : (ftI a ++ 59 :: ftT L).drop ((ftI a).length + 1) = ftT L := by rw [List.drop_length_add_append]; rfl
        unfold rdP
        rw [if_neg hne, q1, if_pos h61, hd, ih (fun b m => h b (List.mem_cons_of_mem _ m)) f hl, fdS_text ha]; rfl
open Classical in
/-- the fields that a text stands for -/
noncomputable def flR (s : List UInt8) : List Fd × Bool := if h : ∃ L, flsB L = true ∧ ascB flL L = true ∧ ftT L = s then (Classical.choose h, true) else ([], false)
theorem ft_inj {L M : List Fd} (h : flsB L = true) (k : flsB M = true) (e : ftT L = ftT M) : L = M := by
  have h1 := rdP_text (flsB_of h).2.1 (ftT L).length (Nat.le_refl _)
  have h2 := rdP_text (flsB_of k).2.1 (ftT M).length (Nat.le_refl _)
  rw [e, h2] at h1
  exact (Option.some.inj h1).symm
theorem flR_of {s : List UInt8} {L : List Fd} (a : flsB L = true) (b : ascB flL L = true) (e : ftT L = s) : flR s = (L, true) := by
  have h : ∃ L, flsB L = true ∧ ascB flL L = true ∧ ftT L = s := ⟨L, a, b, e⟩
  unfold flR
  rw [dif_pos h]
  obtain ⟨c, _, d⟩ := Classical.choose_spec h
  rw [ft_inj c a (d.trans e.symm)]
theorem flR_no {s : List UInt8} (e : ∀ L, flsB L = true → ascB flL L = true → ftT L ≠ s) : flR s = ([], false) := by
  unfold flR
  rw [dif_neg (by rintro ⟨L, a, b, c⟩; exact e L a b c)]
theorem flR_got {s : List UInt8} {L : List Fd} (h : flR s = (L, true)) : flsB L = true ∧ ascB flL L = true ∧ ftT L = s := by
  unfold flR at h
  split at h
  · rename_i q
    have hc := Classical.choose_spec q
    have : Classical.choose q = L := by injection h
    rw [this] at hc; exact hc
  · simp at h
theorem flR_false {s : List UInt8} {L : List Fd} (h : flR s = (L, false)) : L = [] := by
  unfold flR at h
  split at h
  · simp at h
  · injection h with a b; exact a.symm
/-- by what was parted: no piece without =, and the text of it is the text -/
theorem flR_none {s : List UInt8} (h : rdP s.length s = none) : flR s = ([], false) := flR_no fun L a _ e => by
  have := rdP_text (flsB_of a).2.1 (ftT L).length (Nat.le_refl _)
  rw [e, h] at this; cases this
theorem flR_bad {s : List UInt8} {M : List Fd} (h : rdP s.length s = some M) (k : flsB M = false ∨ ftT (soF M) ≠ s) : flR s = ([], false) := flR_no fun L a b e => by
  have := rdP_text (flsB_of a).2.1 (ftT L).length (Nat.le_refl _)
  rw [e, h] at this
  have hM : M = L := Option.some.inj this
  subst hM
  rcases k with k | k
  · rw [a] at k; cases k
  · exact k (by rw [soF_same a b]; exact e)
theorem flR_yes {s : List UInt8} {M : List Fd} (h : rdP s.length s = some M) (a : flsB M = true) (k : ftT (soF M) = s) : flR s = (M, true) := by
  have h1 := rdP_text (flsB_of (soF_valid M)).2.1 (ftT (soF M)).length (Nat.le_refl _)
  rw [k, h] at h1
  have hM : M = soF M := Option.some.inj h1
  refine flR_of a ?_ ?_
  · rw [hM]; exact soF_asc M
  · rw [← hM] at k; exact k
theorem flR_text {L : List Fd} (h : flsB L = true) : flR (ftT (soF L)) = (soF L, true) := flR_of (soF_valid L) (soF_asc L) rfl
/-- with a semicolon behind it nothing is a text of fields -/
theorem ftT_last : ∀ {L : List Fd}, (∀ a ∈ L, flB a = true) → ftT L = [] ∨ ∃ u c, ftT L = u ++ [c] ∧ c ≠ 59 := by
  intro L
  induction L with
  | nil => intro _; exact .inl rfl
  | cons a L ih =>
    intro h
    right
    have ha := h a (by simp)
    have hI : ∃ u c, ftI a = u ++ [c] ∧ c ≠ 59 := by
      have hne : ftI a ≠ [] := by unfold ftI; simp
      refine ⟨(ftI a).dropLast, (ftI a).getLast hne, (List.dropLast_concat_getLast hne).symm, fun e => ?_⟩
      have := List.getLast_mem hne
      rw [e] at this
      exact ftI_no59 ha this
    rcases ih (fun b m => h b (List.mem_cons_of_mem _ m)) with q | ⟨u, c, q, hc⟩
    · by_cases e : L = []
      · subst e; exact hI
      · exfalso
        cases L with
        | nil => exact e rfl
        | cons b r =>
          have : ftT (b :: r) ≠ [] := by
            cases r with
            | nil => show ftI b ≠ []; unfold ftI; simp
            | cons c r => show ftI b ++ _ ≠ []; simp
          exact this q
    · by_cases e : L = []
      · subst e; simp [ftT] at q
      · rw [ftT_cons e, q]
        exact ⟨ftI a ++ 59 :: u, c, by simp, hc⟩
theorem flR_more {s : List UInt8} {L : List Fd} (h : flR s = (L, true)) : flR (s ++ [59]) = ([], false) := flR_no fun M a _ e => by
  rcases ftT_last (flsB_of a).2.1 with q | ⟨u, c, q, hc⟩
  · rw [e] at q; simp at q
  · rw [e] at q
    have := (List.append_inj' q rfl).2
    exact hc (by simpa using this.symm)
/-- a Field as a value -/
def aggFd (i : Fd) : Value := .agg #[.string i.name, .int .i64 i.val]
def encFd (i : Fd) : List Value := [.string i.name, .int .i64 i.val]
theorem encFd_len (i : Fd) : (encFd i).length = 2 := rfl
theorem encFd_one (i : Fd) (u : Value) (h : u ∈ encFd i) : u.oneCell' = true := by
  simp [encFd] at h
  rcases h with rfl | rfl <;> rfl
/-- what comes in: any Field -/
def InFd (i : Fd) : Prop := i.name.size ≤ maxLen ∧ (Lit.int .i64 i.val).wf = true
def Sz1Fd (i : Fd) : Prop := i.name.size ≤ 1048576
def FitFd (i : Fd) : Prop := i.name.size ≤ 100000000
/-- a short one, as the draws make them -/
def ShFd (i : Fd) : Prop := ShS i.name ∧ ShI i.val
theorem fitFd_sz {i : Fd} (h : Sz1Fd i) : FitFd i := by
  unfold Sz1Fd at h; unfold FitFd; omega
theorem fitFd_sh {i : Fd} (h : ShFd i) : FitFd i := by
  simp only [ShFd, FitFd, ShS] at h ⊢
  omega
set_option maxRecDepth 100000 in
set_option maxHeartbeats 1000000 in
theorem argFd {H : Type} {en : TypeId × Value → H} {w : World} {base b0 : Nat} {spare : Nat → Bool} {held : Bool} {r : Reach} {v : Value} {x : DataW H} {p : List MemPlace} (hv : Value.okWide Try.prog w r b0 57 v) (h : DataW.Trod en Try.prog w base spare held 57 v x p) :
    ∃ (name : ByteArray) (val : Int), v = .agg #[.string name, .int .i64 val] ∧ InFd ⟨name, val⟩ := by
  obtain ⟨v0, v1, y0, y1, n, rfl, _, _, h0, h1⟩ := Go.Joins.open_agg2 Try.underlying57 (by kernel_rfl) (by kernel_rfl) hv h
  obtain ⟨name, e0, _, m0⟩ := DataW.trod_string Try.underlying9 h0
  obtain ⟨val, e1, _, m1⟩ := DataW.trod_int Try.underlying3 h1
  simp at e0 e1
  exact ⟨name, val, by rw [e0, e1], m0, m1⟩
theorem toFd_any (name : ByteArray) (val : Int) (w : World) :
    Calls Try.prog 46 #[.agg #[.string name, .int .i64 val]] w fun e w' => e = .returned (.agg #[.string name, .int .i64 val]) ∧ Below w.heap.size w w' := by
  go_enter Try.func46, Try.ntmps46
  go_wp2
  refine bodyPost_ret (v := .agg #[.string name, .int .i64 val]) (by simp [results, Try.results46, go_sem]) rfl ⟨rfl, ?_⟩
  repeat (first | exact Below.refl _ _ | refine Below.alloc ?_ (by simp <;> omega) _ | refine Below.setCell ?_ (by simp <;> omega) _)
theorem eqFd_any (name : ByteArray) (val : Int) (w : World) :
    Calls Try.prog 47 #[.agg #[.string name, .int .i64 val], .agg #[.string name, .int .i64 val]] w fun e w' => e = .returned (.bool true) ∧ Below w.heap.size w w' := by
  have q0 := str_same (a := name) (b := name) rfl
  have q1 : (val == val) = true := by simp
  go_enter Try.func47, Try.ntmps47
  go_wp2
  go_ret
  refine ⟨rfl, ?_⟩
  repeat (first | exact Below.refl _ _ | refine Below.alloc ?_ (by simp <;> omega) _ | refine Below.setCell ?_ (by simp <;> omega) _)
theorem szFd_any (name : ByteArray) (val : Int) (left : Int) (w : World) (hm : InFd ⟨name, val⟩) (h0 : 0 ≤ left) (h1 : left ≤ 1048576) :
    Calls Try.prog 45 #[.agg #[.string name, .int .i64 val], .int .i64 left] w (GotSz (Sz1Fd ⟨name, val⟩) left w) := by
  obtain ⟨m0, _⟩ := hm
  unfold maxLen at m0
  simp only at m0
  by_cases a0 : left - (name.size : Int) < 0
  · go_enter Try.func45, Try.ntmps45
    go_wp2
    go_ret
    exact ⟨-1, rfl, by omega, fun h => absurd h (by omega), (Below.refl _ _).alloc (Nat.le_refl _) _⟩
  · go_enter Try.func45, Try.ntmps45
    go_wp2
    go_ret
    exact ⟨_, rfl, by omega, fun h => (by show name.size ≤ _; omega), (Below.refl _ _).alloc (Nat.le_refl _) _⟩
def FitFds (L : List Fd) : Prop := ∀ e ∈ L, FitFd e
theorem rdFd_cells {w : World} {b o : Nat} {L : List Fd} (h : ∀ j u, (L.flatMap encFd)[j]? = some u → w.cell? ⟨b, o + j, none⟩ = some u) {k : Nat} (hk : k < L.length) :
    w.cell? ⟨b, o + k * 2, none⟩ = some (.string L[k].name) ∧ w.cell? ⟨b, o + k * 2 + 1, none⟩ = some (.int .i64 L[k].val) := by
  refine ⟨?_, ?_⟩
  · exact h (k * 2) _ (flat_get encFd_len L k hk 0 (by omega))
  · have := h (k * 2 + 1) _ (flat_get encFd_len L k hk 1 (by omega)); rw [← Nat.add_assoc] at this; exact this
theorem rdFd_at {w wr : World} {b o : Nat} {L : List Fd} (h : ∀ k (hk : k < L.length), w.cell? ⟨b, o + k * 2, none⟩ = some (.string L[k].name) ∧ w.cell? ⟨b, o + k * 2 + 1, none⟩ = some (.int .i64 L[k].val)) (hb : b < w.heap.size) (hB : Below w.heap.size w wr) {k : Nat} (hk : k < L.length) :
    wr.cell? ⟨b, o + k * 2, none⟩ = some (.string L[k].name) ∧ wr.cell? ⟨b, o + k * 2 + 1, none⟩ = some (.int .i64 L[k].val) := by
  obtain ⟨c0, c1⟩ := h k hk
  exact ⟨by rw [hB.cell (p := ⟨b, o + k * 2, none⟩) hb]; exact c0, by rw [hB.cell (p := ⟨b, o + k * 2 + 1, none⟩) hb]; exact c1⟩
theorem infoFd : (Try.prog.info? 28).map (fun i => (i.zero, i.size, i.bytes)) = some (some (.agg #[.string ⟨#[]⟩, .int .i64 0]), 2, 24) := by kernel_rfl
def OwnFd (w : World) (B : Nat) (v : Value) (L : List Fd) : Prop := OwnG 28 2 encFd w B v L
def GotOwnFd (L : List Fd) (w : World) (e : Ending) (w' : World) : Prop := ∃ v : Value, e = .returned v ∧ OwnFd w' w.heap.size v L ∧ Below w.heap.size w w'
theorem OwnFd.shape {w : World} {B : Nat} {v : Value} {L : List Fd} (h : OwnFd w B v L) : ∃ A c, v = .slice A L.length c := by
  obtain ⟨A, c, hv, _⟩ := OwnG.rd h; exact ⟨A, c, hv⟩
/-- a literal of one -/
theorem rdFd_lit1 (w : World) (i : Fd) (t : TypeId) : RdG encFd (w.alloc (.cells #[.string i.name, .int .i64 i.val] t)) (.slice (some ⟨w.heap.size, 0, none⟩) 1 1) [i] := by
  refine ⟨_, 1, rfl, by simp, by unfold maxLen; omega, .inr ⟨w.heap.size, 0, rfl, by simp, fun j u hj => ?_⟩⟩
  rw [Nat.zero_add, World.cell?_alloc_new]
  simpa [encFd] using hj
theorem ownFd_none (w : World) (B : Nat) (h : B ≤ w.heap.size) : OwnFd (w.alloc (.cells #[] 28)) B (.slice (some ⟨w.heap.size, 0, none⟩) 0 0) [] := by
  have := World.ownsRow_lit (e := 28) (size := 2) (base := B) w #[] 0 h (by simp) rfl
  exact this
theorem ownFd_lit1 (w : World) (B : Nat) (i : Fd) (h : B ≤ w.heap.size) : OwnFd (w.alloc (.cells #[.string i.name, .int .i64 i.val] 28)) B (.slice (some ⟨w.heap.size, 0, none⟩) 1 1) [i] := by
  have := World.ownsRow_lit (e := 28) (size := 2) (base := B) w #[.string i.name, .int .i64 i.val] 1 h (by simp [maxLen]) rfl
  exact this
theorem ownFd_lits (w : World) (B : Nat) (L : List Fd) (cs : Array Value) (hcs : cs = (L.flatMap encFd).toArray) (h : B ≤ w.heap.size) (hl : L.length ≤ 1000) : OwnFd (w.alloc (.cells cs 28)) B (.slice (some ⟨w.heap.size, 0, none⟩) L.length L.length) L := by
  subst hcs
  have := World.ownsRow_lit (e := 28) (size := 2) (base := B) w (L.flatMap encFd).toArray L.length h (by unfold maxLen; omega) (by simpa using flat_len encFd_len L)
  exact this
theorem mkFd {ops : Array Oper} {rest : List Oper} {o : Oper} {a : Act} {Q : Exit → Act → World → Prop} {w : World} (hg : o.guard = none) (l c : Operand) (hop : o.op = Op.makeSlice 23 l c)
    (n : Nat) (hl : a.eval l = .int .i64 0) (hc : a.eval c = .int .i64 n) (hn : n ≤ 1073741824)
    (hK : ∀ w', OwnFd w' w.heap.size (.slice (some ⟨w.heap.size, 0, none⟩) 0 n) [] → Below w.heap.size w w' → wpList Try.prog ops Q rest (a.put o.dst (.slice (some ⟨w.heap.size, 0, none⟩) 0 n)) w') : wpList Try.prog ops Q (o :: rest) a w := by
  obtain ⟨i0, hi, hz0, hz1, hz2⟩ := info_parts infoFd
  refine wpList_make_own w hg l c 23 hop w.heap.size 28 i0 _ 2 Try.underlying23 hi hz0 hz1 .i64 .i64 n n hl hc rfl ?_ ?_ (Nat.le_refl _) ?_
  · rw [hz2]; omega
  · unfold maxLen; omega
  · intro w' h1 h2
    exact hK w' h1 ((Below.refl _ _).grown h2 (Nat.le_refl _) (fun k hk => by cases hk))
theorem fullFd {ops : Array Oper} {rest : List Oper} {o : Oper} {a : Act} {Q : Exit → Act → World → Prop} {w : World} (hg : o.guard = none) (l c : Operand) (hop : o.op = Op.makeSlice 23 l c)
    (n : Nat) (hl : a.eval l = .int .i64 n) (hc : a.eval c = .int .i64 n) (hn : n ≤ 1073741824)
    (hK : ∀ w', OwnFd w' w.heap.size (.slice (some ⟨w.heap.size, 0, none⟩) n n) (List.replicate n ⟨⟨#[]⟩, 0⟩) → Below w.heap.size w w' → wpList Try.prog ops Q rest (a.put o.dst (.slice (some ⟨w.heap.size, 0, none⟩) n n)) w') : wpList Try.prog ops Q (o :: rest) a w := by
  obtain ⟨i0, hi, hz0, hz1, hz2⟩ := info_parts infoFd
  refine wpList_make_full w hg l c 23 hop w.heap.size 28 i0 _ 2 Try.underlying23 hi hz0 hz1 .i64 .i64 n n n hl hc rfl rfl ?_ ?_ (Nat.le_refl _) ?_
  · rw [hz2]; omega
  · unfold maxLen; omega
  · intro w' h1 h2
    refine hK w' ?_ ((Below.refl _ _).grown h2 (Nat.le_refl _) (fun k hk => by cases hk))
    unfold OwnFd OwnG
    rw [List.length_replicate, flat_rep]
    have e : (madeCells (Value.agg #[.string ⟨#[]⟩, .int .i64 0]).cells (n * 2)).toList = (List.replicate n (encFd ⟨⟨#[]⟩, 0⟩)).flatten := made2 _ _ n
    rw [← e]; exact h1
/-- an append of one -/
theorem appFd {ops : Array Oper} {rest : List Oper} {o : Oper} {a : Act} {Q : Exit → Act → World → Prop} {w : World} (hgd : o.guard = none) (s x : Operand)
    (ho : o.op = .call { callee := .builtin .append, args := #[s, x], argTypes := #[23, 23] }) (B : Nat) (v : Value) (L : List Fd) (name : ByteArray) (val : Int) (hs : a.eval s = v)
    (hown : OwnFd w B v L) (hB : B ≤ w.heap.size) (g : Nat) (hgz : w.heap.size = g) (hx : a.eval x = .slice (some ⟨g, 0, none⟩) 1 1) (hl : L.length ≤ 1073741824)
    (h : ∀ v' w', OwnFd w' B v' (L ++ [⟨name, val⟩]) → w.grownBy w' v.ownBlock → wpList Try.prog ops Q rest (a.put o.dst v') w') : wpList Try.prog ops Q (o :: rest) a (w.alloc (.cells #[.string name, .int .i64 val] 28)) :=
  app_gen (enc := encFd) hgd s x 23 ho 28 2 24 _ Try.underlying23 infoFd rfl (by decide) (by decide) encFd_len encFd_one B v L ⟨name, val⟩ hs hown hB g hgz hx hl h
/-- an append of a list -/
theorem appsFd {ops : Array Oper} {rest : List Oper} {o : Oper} {a : Act} {Q : Exit → Act → World → Prop} {w : World} (hgd : o.guard = none) (s x : Operand)
    (ho : o.op = .call { callee := .builtin .append, args := #[s, x], argTypes := #[23, 23] }) (B : Nat) (v u : Value) (L M : List Fd) (hs : a.eval s = v)
    (hown : OwnFd w B v L) (hB : B ≤ w.heap.size) (hx : a.eval x = u) (hrd : RdG encFd w u M) (hl : L.length + M.length ≤ 1073741824)
    (h : ∀ v' w', OwnFd w' B v' (L ++ M) → w.grownBy w' v.ownBlock → wpList Try.prog ops Q rest (a.put o.dst v') w') : wpList Try.prog ops Q (o :: rest) a w :=
  app_all (enc := encFd) hgd s x 23 ho 28 2 24 _ Try.underlying23 infoFd rfl (by decide) (by decide) encFd_len encFd_one B v u L M hs hown hB hx hrd hl h
theorem stepFd {ops : Array Oper} {o : Oper} {a : Act} {K : Act → World → Prop} {Q : Exit → Act → World → Prop} {E : Prop} {w : World} (hgd : o.guard = none) (s x : Operand)
    (ho : o.op = .call { callee := .builtin .append, args := #[s, x], argTypes := #[23, 23] }) (B : Nat) (v u : Value) (L M : List Fd) (hs : a.eval s = v)
    (hown : OwnFd w B v L) (hB : B ≤ w.heap.size) (hx : a.eval x = u) (hrd : RdG encFd w u M) (hl : L.length + M.length ≤ 1073741824)
    (h : ∀ v' w', OwnFd w' B v' (L ++ M) → w.grownBy w' v.ownBlock → K (a.put o.dst v') w') : if Region.wanted o (yielded ops a.tmps) = true then Oper.wp Try.prog o a w K Q else E :=
  step_all (enc := encFd) hgd s x 23 ho 28 2 24 _ Try.underlying23 infoFd rfl (by decide) (by decide) encFd_len encFd_one B v u L M hs hown hB hx hrd hl h
/-- the same appends behind a guard that says yes -/
theorem appsFdG {ops : Array Oper} {rest : List Oper} {o : Oper} {a : Act} {Q : Exit → Act → World → Prop} {w : World} (hw : Region.wanted o (yielded ops a.tmps) = true) (s x : Operand)
    (ho : o.op = .call { callee := .builtin .append, args := #[s, x], argTypes := #[23, 23] }) (B : Nat) (v u : Value) (L M : List Fd) (hs : a.eval s = v)
    (hown : OwnFd w B v L) (hB : B ≤ w.heap.size) (hx : a.eval x = u) (hrd : RdG encFd w u M) (hl : L.length + M.length ≤ 1073741824)
    (h : ∀ v' w', OwnFd w' B v' (L ++ M) → w.grownBy w' v.ownBlock → wpList Try.prog ops Q rest (a.put o.dst v') w') : wpList Try.prog ops Q (o :: rest) a w :=
  Go.BigFrame.wpList_want hw fun _ hK => wp_app_all (enc := encFd) s x 23 ho 28 2 24 _ Try.underlying23 infoFd rfl (by decide) (by decide) encFd_len encFd_one B v u L M hs hown hB hx hrd hl fun v' w' h2 h3 => hK _ _ (h v' w' h2 h3)
theorem stepFdG {ops : Array Oper} {o : Oper} {a : Act} {K : Act → World → Prop} {Q : Exit → Act → World → Prop} {E : Prop} {w : World} (hw : Region.wanted o (yielded ops a.tmps) = true) (s x : Operand)
    (ho : o.op = .call { callee := .builtin .append, args := #[s, x], argTypes := #[23, 23] }) (B : Nat) (v u : Value) (L M : List Fd) (hs : a.eval s = v)
    (hown : OwnFd w B v L) (hB : B ≤ w.heap.size) (hx : a.eval x = u) (hrd : RdG encFd w u M) (hl : L.length + M.length ≤ 1073741824)
    (h : ∀ v' w', OwnFd w' B v' (L ++ M) → w.grownBy w' v.ownBlock → K (a.put o.dst v') w') : if Region.wanted o (yielded ops a.tmps) = true then Oper.wp Try.prog o a w K Q else E := by
  rw [if_pos hw]
  exact wp_app_all (enc := encFd) s x 23 ho 28 2 24 _ Try.underlying23 infoFd rfl (by decide) (by decide) encFd_len encFd_one B v u L M hs hown hB hx hrd hl h
def MaxFd (L : List Fd) : Prop := ∀ e ∈ L, InFd e
def SzFds (L : List Fd) : Prop := L.length ≤ 1048576 ∧ ∀ e ∈ L, Sz1Fd e
theorem fitFd_szs {L : List Fd} (h : SzFds L) : FitFds L := fun e m => fitFd_sz (h.2 e m)
theorem lenFd_szs {L : List Fd} (h : SzFds L) : L.length ≤ 1048576 := h.1
set_option maxRecDepth 100000 in
set_option maxHeartbeats 1000000 in
theorem szsFd_any (v : Value) (L : List Fd) (r9 : Int) (w : World) (h : RdG encFd w v L) (hm : MaxFd L) (p0 : 0 ≤ r9) (p1 : r9 ≤ 1048576) :
    Calls Try.prog 25 #[v, .int .i64 r9] w (GotSz (SzFds L) r9 w) := by
  by_cases hL : L = []
  · subst hL
    obtain ⟨A, c, rfl, hc⟩ := h.nil
    go_enter Try.func25, Try.ntmps25
    go_wp2
    refine wp_loop_rounds 1 ?_
    rw [rounds_succ]; go_wp2
    go_ret
    exact ⟨_, rfl, Int.le_refl _, fun _ => ⟨by simp, by intro e m; simp at m⟩, Below.refl _ _⟩
  · obtain ⟨b, o, c, rfl, h1, h2, hb, h4⟩ := h.some hL
    unfold maxLen at h2
    have hcells := Lib.hid (fun k (hk : k < L.length) => rdFd_cells h4 hk)
    clear h4 hL
    by_cases hbig : r9 < (L.length : Int)
    · go_enter Try.func25, Try.ntmps25
      go_wp2
      go_ret
      exact ⟨-1, rfl, by omega, fun h => absurd h (by omega), Below.refl _ _⟩
    · go_enter Try.func25, Try.ntmps25
      go_wp2
      go_loopw [1, 5] (fun t i wr => ∃ (k : Nat) (r : Int), k ≤ L.length ∧ i = .int .i64 k ∧ t = .int .i64 r ∧ 0 ≤ r ∧ r ≤ r9 ∧ Hid (∀ e ∈ L.take k, Sz1Fd e) ∧ Hid (Below w.heap.size w wr)) (fun _ i _ => L.length - (intOf i).toNat)
      case atStart => exact ⟨0, _, Nat.zero_le _, rfl, rfl, by omega, by omega, Lib.hid (by simp), Lib.hid (Below.refl _ _)⟩
      case round =>
        obtain ⟨k, r, hk, rfl, rfl, r0, r1, hp, hbr⟩ := hrel
        by_cases hlt : k < L.length
        · obtain ⟨c0, c1⟩ := rdFd_at hcells.out hb hbr.out hlt
          have hin := hm _ (List.getElem_mem hlt)
          have hN := fun q => take_mem (p := Sz1Fd) hlt hp.out q
          obtain ⟨e, he⟩ : ∃ e, L[k] = e := ⟨_, rfl⟩
          rw [he] at c0 c1 hin hN
          obtain ⟨name, val⟩ := e
          simp only at c0 c1
          have HN := Lib.hid hN
          have hin := Lib.hid hin
          have hjj : (k : Int) < (L.length : Int) := by omega
          clear he hN
          go_wp2_with fail
          refine (szFd_any name val r _ hin.out r0 (by omega)).mono ?_
          rintro e w3 ⟨r', rfl, hr1, hr2, hb3⟩
          have hb3 := Lib.hid (below_trans' hbr.out hb3)
          have hr2 := Lib.hid hr2
          by_cases hneg : r' < 0
          · go_wp2
            go_ret
            exact ⟨_, rfl, by omega, fun h => absurd h (by omega), hb3.out⟩
          · have hx := Lib.hid (HN.out (hr2.out (by omega)))
            go_wp2
            go_roundw
            case rel => exact ⟨k + 1, r', by omega, by go_num, rfl, by omega, by omega, hx, hb3⟩
            case measure => simp [intOf]; omega
        · have HR : Hid (SzFds L) := Lib.hid ⟨by omega, by have := hp.out; rw [List.take_of_length_le (by omega)] at this; exact this⟩
          go_wp2
          go_ret
          exact ⟨_, rfl, r1, fun _ => HR.out, hbr.out⟩
set_option maxRecDepth 100000 in
set_option maxHeartbeats 4000000 in
theorem tosFd_any (v : Value) (L : List Fd) (w : World) (h : RdG encFd w v L) (hn : L.length ≤ 1048576) :
    Calls Try.prog 26 #[v] w (GotOwnFd L w) := by
  by_cases hL : L = []
  · subst hL
    obtain ⟨A, c, rfl, hc⟩ := h.nil
    go_enter Try.func26, Try.ntmps26
    go_wp2_with (at_make; refine fullFd rfl _ _ rfl 0 rfl rfl (by omega) ?_; intro w1 hown0 hb0)
    refine wp_loop_rounds 1 ?_
    rw [rounds_succ]; go_wp2
    go_ret
    exact ⟨_, rfl, hown0, hb0⟩
  · obtain ⟨b, o, c, rfl, h1, h2, hb, h4⟩ := h.some hL
    unfold maxLen at h2
    have hcells := Lib.hid (fun k (hk : k < L.length) => rdFd_cells h4 hk)
    clear h4 hL
    go_enter Try.func26, Try.ntmps26
    go_wp2_with (at_make; refine fullFd rfl _ _ rfl L.length rfl rfl (by omega) ?_; intro w1 hown0 hb0)
    have hown0 := Lib.hid hown0
    have hb0 := Lib.hid hb0
    go_loopw [4] (fun i wr => ∃ (k : Nat) (M : List Fd), k ≤ L.length ∧ i = .int .i64 k ∧ M.length = L.length ∧ Hid (M.take k = L.take k) ∧ Hid (OwnFd wr w.heap.size (.slice (some ⟨w.heap.size, 0, none⟩) L.length L.length) M) ∧ Hid (Below w.heap.size w wr)) (fun i _ => L.length - (intOf i).toNat)
    case atStart => exact ⟨0, List.replicate L.length ⟨⟨#[]⟩, 0⟩, Nat.zero_le _, rfl, by simp, Lib.hid rfl, hown0, hb0⟩
    case round =>
      obtain ⟨k, M, hk, rfl, hM, hp, hown, hbr⟩ := hrel
      have hM := Lib.hid hM
      by_cases hlt : k < L.length
      · obtain ⟨c0, c1⟩ := rdFd_at hcells.out hb hbr.out hlt
        have hset := Lib.hid (set_take hM.out hlt hp.out L[k] rfl)
        obtain ⟨e, he⟩ : ∃ e, L[k] = e := ⟨_, rfl⟩
        rw [he] at c0 c1 hset
        obtain ⟨name, val⟩ := e
        simp only at c0 c1
        have hjj : (k : Int) < (L.length : Int) := by omega
        clear he
        go_wp2_with fail
        refine (toFd_any name val _).mono ?_
        rintro e w3 ⟨rfl, hb3⟩
        have hown3 := Lib.hid (OwnG.grown hown.out hb3)
        have hbw3 := Lib.hid (below_trans' hbr.out hb3)
        have hkM : k < M.length := by rw [hM.out]; exact hlt
        obtain ⟨x, hx⟩ : ∃ x, M[k] = x := ⟨_, rfl⟩
        obtain ⟨x_name, x_val⟩ := x
        have cell := fun j hj => OwnG.cellAt encFd_len hown3.out k hkM j hj (k * 2 + j) rfl
        rw [hx] at cell
        obtain ⟨a0, a1, a2⟩ := OwnG.cellAt encFd_len hown3.out k hkM 0 (by omega) (k * 2) rfl
        rw [hx] at a0
        rw [show (encFd ⟨x_name, x_val⟩)[0]? = some (.string x_name) from rfl] at a0
        obtain ⟨b1, f1, _⟩ := cell 1 (by omega)
        rw [show (encFd ⟨x_name, x_val⟩)[1]? = some (.int .i64 x_val) from rfl] at b1
        have s1 := (OwnG.store encFd_len hown3.out k hkM 0 (by omega) (.string name) ⟨name, x_val⟩ (by rw [hx]; rfl) (k * 2) rfl).1
        have s2 := (OwnG.store encFd_len s1 k (by simpa using hkM) 1 (by omega) (.int .i64 val) ⟨name, val⟩ (by rw [List.getElem_set_self]; rfl) (k * 2 + 1) rfl).1
        rw [List.set_set] at s2
        have S4 := Lib.hid s2
        have G4 := Lib.hid ((hbw3.out.setCell (p := ⟨w.heap.size, k * 2, none⟩) (Nat.le_refl _) (.string name)).setCell (p := ⟨w.heap.size, k * 2 + 1, none⟩) (Nat.le_refl _) (.int .i64 val))
        clear s1 s2 cell hx
        go_wp2
        go_roundw
        case rel => exact ⟨k + 1, M.set k ⟨name, val⟩, by omega, by go_num, by rw [List.length_set]; exact hM.out, hset, S4, G4⟩
        case measure => simp [intOf]; omega
      · have HR : Hid (M = L) := Lib.hid (by have := hp.out; rw [List.take_of_length_le (by omega), List.take_of_length_le (by have := hM.out; omega)] at this; exact this)
        go_wp2
        go_ret
        exact ⟨.slice (some ⟨w.heap.size, 0, none⟩) L.length L.length, rfl, by have := hown.out; rw [HR.out] at this; exact this, hbr.out⟩
set_option maxRecDepth 100000 in
set_option maxHeartbeats 4000000 in
theorem eqsFd_any (v v' : Value) (L : List Fd) (w : World) (h : RdG encFd w v L) (h' : RdG encFd w v' L) :
    Calls Try.prog 27 #[v, v'] w fun e w' => e = .returned (.bool true) ∧ Below w.heap.size w w' := by
  by_cases hL : L = []
  · subst hL
    obtain ⟨A, c, rfl, hc⟩ := h.nil
    obtain ⟨A', c', rfl, hc'⟩ := h'.nil
    go_enter Try.func27, Try.ntmps27
    go_wp2
    refine wp_loop_rounds 1 ?_
    rw [rounds_succ]; go_wp2
    go_ret
    exact ⟨rfl, Below.refl _ _⟩
  · obtain ⟨b, o, c, rfl, h1, h2, hb, h4⟩ := h.some hL
    obtain ⟨b', o', c', rfl, h1', h2', hb', h4'⟩ := h'.some hL
    unfold maxLen at h2 h2'
    have hcells := Lib.hid (fun k (hk : k < L.length) => rdFd_cells h4 hk)
    have hcells' := Lib.hid (fun k (hk : k < L.length) => rdFd_cells h4' hk)
    clear h4 h4' hL
    have t0 : ((L.length : Int) == (L.length : Int)) = true := by simp
    go_enter Try.func27, Try.ntmps27
    go_wp2
    go_loopw [5] (fun i wr => ∃ k : Nat, k ≤ L.length ∧ i = .int .i64 k ∧ Hid (Below w.heap.size w wr)) (fun i _ => L.length - (intOf i).toNat)
    case atStart => exact ⟨0, Nat.zero_le _, rfl, Lib.hid (Below.refl _ _)⟩
    case round =>
      obtain ⟨k, hk, rfl, hbr⟩ := hrel
      by_cases hlt : k < L.length
      · obtain ⟨c0, c1⟩ := rdFd_at hcells.out hb hbr.out hlt
        obtain ⟨d0, d1⟩ := rdFd_at hcells'.out hb' hbr.out hlt
        obtain ⟨e, he⟩ : ∃ e, L[k] = e := ⟨_, rfl⟩
        rw [he] at c0 c1 d0 d1
        obtain ⟨name, val⟩ := e
        simp only at c0 c1 d0 d1
        have hj0 : (0 : Int) ≤ (k : Int) := by omega
        have hjj : (k : Int) < (L.length : Int) := by omega
        clear he
        have hbd : Hid (Below w.heap.size w wr.drew) := Lib.hid (Below.drew hbr.out)
        go_wp2
        go_region_held3 (fun w' => w'.cell? ⟨b, o + k * 2, none⟩ = some (.string name) ∧ w'.cell? ⟨b, o + k * 2 + 1, none⟩ = some (.int .i64 val) ∧ w'.cell? ⟨b', o' + k * 2, none⟩ = some (.string name) ∧ w'.cell? ⟨b', o' + k * 2 + 1, none⟩ = some (.int .i64 val) ∧ Hid (Below w.heap.size w w'))
          (first | exact ⟨c0, c1, d0, d1, hbd⟩ | exact hS3.out)
          (first | (go_at_call 47; refine (eqFd_any name val _).mono ?_; rintro e w3 ⟨rfl, hb3⟩; have hS3 := Lib.hid (keepP2 (W := w) (w2 := wr.drew) (b := b) (b' := b') (i := o + k * 2) (i' := o' + k * 2) (x0 := .string name) (x1 := .int .i64 val) (y0 := .string name) (y1 := .int .i64 val) hb hb' hb3 c0 c1 d0 d1 hbd)))
        go_split_ands
        rename Hid (Below w.heap.size w _) => hS
        go_wp2
        go_roundw
        case rel => exact ⟨k + 1, by omega, by go_num, hS⟩
        case measure => simp [intOf]; omega
      · go_wp2
        go_ret
        exact ⟨rfl, hbr.out⟩
set_option maxRecDepth 100000 in
set_option maxHeartbeats 4000000 in
theorem sameFd_any (v v' : Value) (L : List Fd) (w : World) (h : RdG encFd w v L) (h' : RdG encFd w v' L) :
    Calls Try.prog 17 #[v, v'] w (Quiet (.bool true) w) := by
  by_cases hL : L = []
  · subst hL
    obtain ⟨A, c, rfl, hc⟩ := h.nil
    obtain ⟨A', c', rfl, hc'⟩ := h'.nil
    go_enter Try.func17, Try.ntmps17
    go_wp2
    refine wp_loop_rounds 1 ?_
    rw [rounds_succ]; go_wp2
    go_ret
    exact ⟨rfl, 0, rfl⟩
  · obtain ⟨b, o, c, rfl, h1, h2, hb, h4⟩ := h.some hL
    obtain ⟨b', o', c', rfl, h1', h2', hb', h4'⟩ := h'.some hL
    unfold maxLen at h2 h2'
    have hcells := Lib.hid (fun k (hk : k < L.length) => rdFd_cells h4 hk)
    have hcells' := Lib.hid (fun k (hk : k < L.length) => rdFd_cells h4' hk)
    clear h4 h4' hL
    have t0 : ((L.length : Int) == (L.length : Int)) = true := by simp
    go_enter Try.func17, Try.ntmps17
    go_wp2
    go_loopw [5] (fun i wr => ∃ k : Nat, k ≤ L.length ∧ i = .int .i64 k ∧ Hid (∃ m, wr = w.drewN m)) (fun i _ => L.length - (intOf i).toNat)
    case atStart => exact ⟨0, Nat.zero_le _, rfl, Lib.hid ⟨0, rfl⟩⟩
    case round =>
      obtain ⟨k, hk, rfl, hw⟩ := hrel
      by_cases hlt : k < L.length
      · have hbel : Below w.heap.size w wr := by obtain ⟨m, hm⟩ := hw.out; rw [hm]; exact below_drewN w m
        obtain ⟨c0, c1⟩ := rdFd_at hcells.out hb hbel hlt
        obtain ⟨d0, d1⟩ := rdFd_at hcells'.out hb' hbel hlt
        obtain ⟨e, he⟩ : ∃ e, L[k] = e := ⟨_, rfl⟩
        rw [he] at c0 c1 d0 d1
        obtain ⟨name, val⟩ := e
        simp only at c0 c1 d0 d1
        have hj0 : (0 : Int) ≤ (k : Int) := by omega
        have hjj : (k : Int) < (L.length : Int) := by omega
        have q0 := str_same (a := name) (b := name) rfl
        have q1 : (val == val) = true := by simp
        clear he hbel
        go_wp2
        go_quiet (fail)
        go_wp2
        go_roundw
        case rel => exact ⟨k + 1, by omega, by go_num, Lib.hid (by obtain ⟨m, hm⟩ := hw.out; exact ⟨_, by rw [hm, drewN_add]⟩)⟩
        case measure => simp [intOf]; omega
      · go_wp2
        go_ret
        exact ⟨rfl, hw.out⟩
/-- lists of different lengths are not the same -/
theorem sameFd_ne (v v' : Value) (L L' : List Fd) (w : World) (h : RdG encFd w v L) (h' : RdG encFd w v' L') (hn : L.length ≠ L'.length) :
    Calls Try.prog 17 #[v, v'] w (Quiet (.bool false) w) := by
  obtain ⟨A, c, rfl, h1, h2, _⟩ := h
  obtain ⟨A', c', rfl, h1', h2', _⟩ := h'
  unfold maxLen at h2 h2'
  have t0 : ((L.length : Int) == (L'.length : Int)) = false := by rw [beq_eq_false_iff_ne]; omega
  go_enter Try.func17, Try.ntmps17
  go_wp2
  go_ret
  exact ⟨rfl, 0, rfl⟩
set_option maxRecDepth 100000 in
theorem elFd {H : Type} {en : TypeId × Value → H} {w : World} {spare : Nat → Bool} {held : Bool} : ∀ m cs' x', DataW.trod en Try.prog w 0 spare held m 57 cs' = some x' → ∃ y : Fd, cs' = encFd y ∧ InFd y := by
  intro m cs x h
  obtain ⟨xs, n, _, _, hlen, hxl, hf⟩ := DataW.trod_struct Try.underlying57 h
  have hC : Try.prog.cellsOf 57 = 2 := by kernel_rfl
  have ks : Try.prog.cellsOf 9 = 1 := by kernel_rfl
  have ki : Try.prog.cellsOf 3 = 1 := by kernel_rfl
  rw [hC] at hlen
  match cs, hlen, xs, hxl with
  | [c0, c1], _, [y0, y1], _ =>
    have h0 : DataW.trod en Try.prog w 0 spare held n 9 [c0] = some y0 := by have := hf 0 _ rfl; simpa [ks] using this
    have h1 : DataW.trod en Try.prog w 0 spare held n 3 [c1] = some y1 := by have := hf 1 _ rfl; simpa [ks, ki] using this
    obtain ⟨s0, e0, _, m0⟩ := DataW.trod_string Try.underlying9 h0
    obtain ⟨s1, e1, _, m1⟩ := DataW.trod_int Try.underlying3 h1
    simp at e0 e1
    exact ⟨⟨s0, s1⟩, by rw [e0, e1]; rfl, m0, m1⟩
/-- an argument that is a list -/
def ArgLFd (w : World) (A : Option Addr) (n c : Nat) (L : List Fd) : Prop := L.length = n ∧ RdG encFd w (.slice A n c) L ∧ MaxFd L
set_option maxRecDepth 100000 in
theorem argLFd {H : Type} {en : TypeId × Value → H} {w : World} {spare : Nat → Bool} {held : Bool} {fuel : Nat} {A : Option Addr} {n c : Nat} {cs : List Value} {x : DataW H × List MemPlace} (hcs : cs = [.slice A n c]) (h : DataW.trod en Try.prog w 0 spare held fuel 36 cs = some x) :
    ∃ L : List Fd, ArgLFd w A n c L :=
  rd_arg 2 (by decide) Try.underlying36 (by kernel_rfl) encFd_len _ elFd hcs h
/-- marked ones -/
def markFd (n m : Nat) : List Fd := (List.range n).map fun i => ⟨(mlT (m + 2 * i)), ((((m + 2 * i) : Nat) : Int) + 1)⟩
theorem markFd_len (n m : Nat) : (markFd n m).length = n := by simp [markFd]
theorem markFd_get (n m i : Nat) (h : i < (markFd n m).length) : (markFd n m)[i] = ⟨(mlT (m + 2 * i)), ((((m + 2 * i) : Nat) : Int) + 1)⟩ := by simp [markFd]
def GotMarkFd (w : World) (B : Nat) (v : Value) (n m : Nat) (e : Ending) (w' : World) : Prop := e = .returned (.int .i64 ((m + 2 * n : Nat) : Int)) ∧ OwnFd w' B v (markFd n m) ∧ w.grownBy w' v.ownBlock
set_option maxRecDepth 100000 in
set_option maxHeartbeats 4000000 in
theorem marksFd_row (v : Value) (L : List Fd) (m B : Nat) (w : World) (hown : OwnFd w B v L) (hn : L.length ≤ 1048576) (hm : m ≤ 5000000) :
    Calls Try.prog 28 #[v, .int .i64 m] w (GotMarkFd w B v L.length m) := by
  rcases OwnG.form hown with ⟨rfl, rfl⟩ | ⟨g, c, rfl, hg⟩
  · go_enter Try.func28, Try.ntmps28
    go_wp2
    refine wp_loop_rounds 1 ?_
    rw [rounds_succ]; go_wp2
    go_ret
    exact ⟨rfl, hown, grown_refl _ _⟩
  · have hown := Lib.hid hown
    go_enter Try.func28, Try.ntmps28
    go_wp2
    go_loopw [1, 5] (fun t i wr => ∃ (k q : Nat) (M : List Fd), k ≤ L.length ∧ i = .int .i64 k ∧ t = .int .i64 q ∧ q ≤ 12000000 ∧ Hid (q = m + 2 * k) ∧ M.length = L.length ∧ Hid (M.take k = (markFd L.length m).take k) ∧ Hid (OwnFd wr B (.slice (some ⟨g, 0, none⟩) L.length c) M) ∧ Hid (w.grownBy wr (some g))) (fun _ i _ => L.length - (intOf i).toNat)
    case atStart => exact ⟨0, m, L, Nat.zero_le _, rfl, rfl, by omega, Lib.hid rfl, rfl, Lib.hid rfl, hown, Lib.hid (grown_refl _ _)⟩
    case round =>
      obtain ⟨k, q, M, hk, rfl, rfl, hq1, hq, hM, hp, hownr, hbr⟩ := hrel
      have hM := Lib.hid hM
      by_cases hlt : k < L.length
      · have hkM : k < M.length := by rw [hM.out]; exact hlt
        have hset := Lib.hid (set_take (L := markFd L.length m) (by rw [markFd_len]; exact hM.out) (by rw [markFd_len]; exact hlt) hp.out ⟨(mlT q), (((q : Nat) : Int) + 1)⟩ (by rw [markFd_get, hq.out]))
        have hjj : (k : Int) < (L.length : Int) := by omega
        have hq2 : q + 2 ≤ 12000000 := by have := hq.out; omega
        have HQ : Hid (q + 1 + 1 = m + 2 * (k + 1)) := Lib.hid (by have := hq.out; omega)
        obtain ⟨x, hx⟩ : ∃ x, M[k] = x := ⟨_, rfl⟩
        obtain ⟨x_name, x_val⟩ := x
        go_wp2_with fail
        refine (mkl_bigI _ q _ rfl (by omega)).mono ?_
        rintro e w3 ⟨rfl, hb3⟩
        have hown3 := Lib.hid (OwnG.grown hownr.out hb3)
        have hbw3 := Lib.hid (row_trans hbr.out hb3)
        clear hb3
        obtain ⟨a0, f0, t0⟩ := OwnG.cellAt encFd_len hown3.out k hkM 0 (by omega) (k * 2) rfl
        rw [hx, show (encFd ⟨x_name, x_val⟩)[0]? = some (.string x_name) from rfl] at a0
        obtain ⟨a1, f1, t1⟩ := OwnG.cellAt encFd_len hown3.out k hkM 1 (by omega) (k * 2 + 1) rfl
        rw [hx, show (encFd ⟨x_name, x_val⟩)[1]? = some (.int .i64 x_val) from rfl] at a1
        have s0 := (OwnG.store encFd_len hown3.out k hkM 0 (by omega) (.string (mlT q)) ⟨(mlT q), x_val⟩ (by rw [hx]; rfl) (k * 2) rfl).1
        have s1 := (OwnG.store encFd_len s0 k (by simpa using hkM) 1 (by omega) (.int .i64 (((q : Nat) : Int) + 1)) ⟨(mlT q), (((q : Nat) : Int) + 1)⟩ (by rw [List.getElem_set_self]; rfl) (k * 2 + 1) rfl).1
        rw [List.set_set] at s1
        have S0 := Lib.hid s1
        have G0 := Lib.hid (row_set (row_set hbw3.out (k * 2) (.string (mlT q))) (k * 2 + 1) (.int .i64 (((q : Nat) : Int) + 1)))
        clear s0 s1
        go_wp2
        go_roundw
        case rel => exact ⟨k + 1, q + 1 + 1, _, by omega, by go_num, by go_num, hq2, HQ, by rw [List.length_set]; exact hM.out, hset, by first | exact S0 | (have := S0; simpa [Int.add_assoc] using this), by first | exact G0 | (have := G0; simpa [Int.add_assoc] using this)⟩
        case measure => simp [intOf]; omega
      · have HR : Hid (M = markFd L.length m) := Lib.hid (by have := hp.out; rw [List.take_of_length_le (by have := hM.out; omega), List.take_of_length_le (by rw [markFd_len]; omega)] at this; exact this)
        have hqn : q = m + 2 * L.length := by have := hq.out; omega
        have hqn := Lib.hid hqn
        go_wp2
        go_ret
        exact ⟨by rw [← hqn.out]; rfl, by rw [← HR.out]; exact hownr.out, hbr.out⟩
set_option maxRecDepth 100000 in
set_option maxHeartbeats 4000000 in
theorem heldsFd_any (v : Value) (n m : Nat) (w : World) (h : RdG encFd w v (markFd n m)) (hn : n ≤ 100) (hm : m ≤ 10000) :
    Calls Try.prog 29 #[v, .int .i64 m] w fun e w' => e = .returned (.int .i64 ((m + 2 * n : Nat) : Int)) ∧ Below w.heap.size w w' := by
  by_cases h0 : n = 0
  · subst h0
    obtain ⟨A, c, rfl, hc⟩ := h.nil
    go_enter Try.func29, Try.ntmps29
    go_wp2
    refine wp_loop_rounds 1 ?_
    rw [rounds_succ]; go_wp2
    go_ret
    exact ⟨rfl, Below.refl _ _⟩
  · obtain ⟨b, o, c, rfl, h1, h2, hb, h4⟩ := h.some (fun e => h0 (by rw [← markFd_len n m, e]; rfl))
    rw [markFd_len] at h1
    rw [markFd_len]
    unfold maxLen at h2
    have hcells := Lib.hid (fun k (hk : k < (markFd n m).length) => rdFd_cells h4 hk)
    clear h4 h h0
    go_enter Try.func29, Try.ntmps29
    go_wp2
    go_loopw [1, 5] (fun t i wr => ∃ (k q : Nat), k ≤ n ∧ i = .int .i64 k ∧ t = .int .i64 q ∧ q ≤ 11000 ∧ Hid (q = m + 2 * k) ∧ Hid (Below w.heap.size w wr)) (fun _ i _ => n - (intOf i).toNat)
    case atStart => exact ⟨0, m, Nat.zero_le _, rfl, rfl, by omega, Lib.hid rfl, Lib.hid (Below.refl _ _)⟩
    case round =>
      obtain ⟨k, q, hk, rfl, rfl, hq1, hq, hbr⟩ := hrel
      by_cases hlt : k < n
      · obtain ⟨c0, c1⟩ := rdFd_at hcells.out hb hbr.out (k := k) (by rw [markFd_len]; exact hlt)
        rw [markFd_get, ← hq.out] at c0 c1
        simp only at c0 c1
        have hj0 : (0 : Int) ≤ (k : Int) := by omega
        have hjj : (k : Int) < (n : Int) := by omega
        have hq2 : q + 2 ≤ 11000 := by have := hq.out; omega
        have HQ : Hid (q + 1 + 1 = m + 2 * (k + 1)) := Lib.hid (by have := hq.out; omega)
        have q0 := str_same (a := mlT q) (b := mlT q) rfl
        have hbd : Hid (Below w.heap.size w wr.drew) := Lib.hid (Below.drew hbr.out)
        go_wp2
        go_region_held3 (fun w' => w'.cell? ⟨b, o + k * 2, none⟩ = some (.string (mlT q)) ∧ w'.cell? ⟨b, o + k * 2 + 1, none⟩ = some (.int .i64 (((q : Nat) : Int) + 1)) ∧ Hid (Below w.heap.size w w'))
          (first | exact ⟨c0, c1, hbd⟩ | exact hS0.out)
          (first | (go_at_call 48; refine (mkl_int _ q _ rfl (by omega)).mono ?_; rintro e w3 ⟨rfl, hb3⟩; have hS0 := Lib.hid (keepR2 (W := w) (i := o + k * 2) (x0 := .string (mlT q)) (x1 := .int .i64 (((q : Nat) : Int) + 1)) hb hb3 (by assumption) (by assumption) (by assumption))))
        go_split_ands
        rename Hid (Below w.heap.size w _) => hT0
        have hU0 := Lib.hid (Below.drew hT0.out)
        go_wp2
        go_roundw
        case rel => exact ⟨k + 1, q + 1 + 1, by omega, by go_num, by go_num, hq2, HQ, hT0⟩
        case measure => simp [intOf]; omega
      · have hqn : q = m + 2 * n := by have := hq.out; omega
        have hqn := Lib.hid hqn
        go_wp2
        go_ret
        exact ⟨by rw [← hqn.out]; rfl, hbr.out⟩
theorem flR_6 (s : List UInt8) : (flR s).1.length ≤ 6 := by
  rcases q : flR s with ⟨L, z⟩
  cases z with
  | true => exact (flsB_of (flR_got q).1).1
  | false => rw [flR_false q]; simp
theorem fitFds_sh {L : List Fd} (h : FitFds L) : FitFds L := h
theorem fitFd_of {L : List Fd} (h : flsB L = true) : FitFds L := fun a m => by
  have := (word_len (flB_of ((flsB_of h).2.1 a m)).1).2
  rw [blen] at this
  show a.name.size ≤ _; omega
theorem fl_leq {a b : Fd} (h : flL a b = true) : Op.bytesLess b.name.toList a.name.toList = false ∧ (b.name.toList == a.name.toList) = false := by
  rw [ByteArray.toList_eq, ByteArray.toList_eq]
  exact ⟨(less_asymm h).1, by have := (less_asymm h).2; simpa using this⟩
theorem rev_next {L : List Fd} {q : Nat} (h : q < L.length) : (L.drop (q + 1)).reverse ++ [L[q]] = (L.drop q).reverse := by
  rw [List.drop_eq_getElem_cons h, List.reverse_cons]
theorem soF_rev {L : List Fd} (h : flsB L = true) : soF L.reverse = soF L := (soF_perm (List.reverse_perm L).symm h).symm
theorem soF_twice (L : List Fd) : soF (soF L) = soF L := soF_same (soF_valid L) (soF_asc L)
end Go.Proofs.Ytchknjhfodofcaa
