/-
  The verifier's own text: RdFMath SortMath MakeG RdFG CopyF LtIS.
-/
import Derived.Test.YthniiknhbhoncaaRows
import Derived.Test.YthniiknhbhoncaaGq
import Derived.Test.YthniiknhbhoncaaGn
import Derived.Test.YthniiknhbhoncaaGa
import Derived.Test.YthniiknhbhoncaaGr
import Derived.Test.YthniiknhbhoncaaGo
import Derived.WalkKit
import Derived.ProofKit
import Derived.Below
import Derived.Lib.Hide
import Derived.Outline
import Derived.BigQuiet
import Derived.Deep.QuietTactic
import Derived.Deep.Draws
import Derived.Laws.OwnMore
import Derived.Laws.Rows
import Derived.WalkSpells
import Derived.Deep.RegionWith
namespace Go.Proofs.Ythniiknhbhoncaa
open Go.RowKit
set_option linter.unusedVariables false
open Classical in
/-- the item that a line stands for -/
noncomputable def itL (s : List UInt8) : It × Bool := if h : ∃ L ok, RdE s L ok then itR h.choose else (It.zero, false)
theorem itL_of {s : List UInt8} {L : EL} {ok : Bool} (h : RdE s L ok) : itL s = itR L := by
  have hx : ∃ L ok, RdE s L ok := ⟨L, ok, h⟩
  unfold itL
  rw [dif_pos hx]
  obtain ⟨ok', h'⟩ := hx.choose_spec
  rw [(rdE_one h' h).1]
theorem itL_ok {s : List UInt8} {L : EL} {ok : Bool} {i : It} (h : RdE s L ok) (h' : itR L = (i, true)) : itB i = true := (itR_ok h').1
open Classical in
/-- reading the rest of the lines, with what was read so far -/
noncomputable def rfF (out : List It) (bad : Nat) : List ByteArray → List It × Int
  | [] => (out, (bad : Int))
  | s :: ls => if (itL s.data.toList).2 = false then rfF out (bad + 1) ls else if (itL s.data.toList).1.key ∈ out.map It.key then rfF out bad ls else if 8 ≤ out.length then ([], -1) else rfF (out ++ [(itL s.data.toList).1]) bad ls
theorem rfF_nil (out : List It) (bad : Nat) : rfF out bad [] = (out, (bad : Int)) := rfl
theorem rfF_none {out : List It} {bad : Nat} {s : ByteArray} {ls : List ByteArray} {i : It} (h : itL s.data.toList = (i, false)) : rfF out bad (s :: ls) = rfF out (bad + 1) ls := by
  rw [rfF, if_pos (by rw [h])]
theorem rfF_twice {out : List It} {bad : Nat} {s : ByteArray} {ls : List ByteArray} {i : It} (h : itL s.data.toList = (i, true)) (hm : i.key ∈ out.map It.key) : rfF out bad (s :: ls) = rfF out bad ls := by
  rw [rfF, if_neg (by rw [h]; simp), if_pos (by rw [h]; exact hm)]
theorem rfF_full {out : List It} {bad : Nat} {s : ByteArray} {ls : List ByteArray} {i : It} (h : itL s.data.toList = (i, true)) (hm : ¬ i.key ∈ out.map It.key) (h8 : 8 ≤ out.length) : rfF out bad (s :: ls) = ([], -1) := by
  rw [rfF, if_neg (by rw [h]; simp), if_neg (by rw [h]; exact hm), if_pos h8]
theorem rfF_more {out : List It} {bad : Nat} {s : ByteArray} {ls : List ByteArray} {i : It} (h : itL s.data.toList = (i, true)) (hm : ¬ i.key ∈ out.map It.key) (h8 : out.length < 8) : rfF out bad (s :: ls) = rfF (out ++ [i]) bad ls := by
  rw [rfF, if_neg (by rw [h]; simp), if_neg (by rw [h]; exact hm), if_neg (by omega), h]
theorem fdB_nil : fdB [] = true := by decide
/-- a feed with one more -/
theorem fdB_more {out : List It} {i : It} (h : fdB out = true) (hi : itB i = true) (hm : ¬ i.key ∈ out.map It.key) (h8 : out.length < 8) : fdB (out ++ [i]) = true := by
  obtain ⟨a, b, c⟩ := fdB_of h
  refine fdB_mk (by simp; omega) (fun x m => ?_) ?_
  · rcases List.mem_append.1 m with m | m
    · exact b x m
    · have : x = i := by simpa using m
      rw [this]; exact hi
  · rw [List.map_append, List.nodup_append]
    refine ⟨c, by simp, fun x hx y hy => ?_⟩
    have : y = i.key := by simpa using hy
    rw [this]; rintro rfl; exact hm hx
theorem fdB_dup {out : List It} {i : It} (hm : i.key ∈ out.map It.key) : fdB (out ++ [i]) = false := by
  rcases q : fdB (out ++ [i]) with _ | _
  · rfl
  · have := (fdB_of q).2.2
    rw [List.map_append, List.nodup_append] at this
    exact absurd rfl (this.2.2 _ hm i.key (by simp))
theorem fdB_long {out : List It} {i : It} (h8 : 8 ≤ out.length) : fdB (out ++ [i]) = false := by
  rcases q : fdB (out ++ [i]) with _ | _
  · rfl
  · have := (fdB_of q).1; simp at this; omega
/-- what comes of it -/
theorem rfF_inv {out : List It} {bad : Nat} {ls : List ByteArray} (h : fdB out = true) :
    rfF out bad ls = ([], -1) ∨ ∃ (x : List It) (b : Nat), rfF out bad ls = (x, (b : Int)) ∧ bad ≤ b ∧ fdB x = true ∧ ∀ i ∈ out, i ∈ x := by
  induction ls generalizing out bad with
  | nil => exact .inr ⟨out, bad, rfl, Nat.le_refl _, h, fun i m => m⟩
  | cons s ls ih =>
    rcases e : itL s.data.toList with ⟨i, ok⟩
    cases ok with
    | false =>
      rw [rfF_none e]
      rcases ih (bad := bad + 1) h with q | ⟨x, b, q1, q2, q3, q4⟩
      · exact .inl q
      · exact .inr ⟨x, b, q1, by omega, q3, q4⟩
    | true =>
      by_cases hm : i.key ∈ out.map It.key
      · rw [rfF_twice e hm]; exact ih h
      · by_cases h8 : 8 ≤ out.length
        · rw [rfF_full e hm h8]; exact .inl rfl
        · rw [rfF_more e hm (by omega)]
          have hi : itB i = true := by
            unfold itL at e
            split at e
            · exact (itR_ok e).1
            · cases e
          rcases ih (bad := bad) (fdB_more h hi hm (by omega)) with q | ⟨x, b, q1, q2, q3, q4⟩
          · exact .inl q
          · exact .inr ⟨x, b, q1, q2, q3, fun i m => q4 i (by simp [m])⟩
/-- the same lines again add nothing, and as many are none -/
theorem rfF_again {out : List It} {bad : Nat} {ls : List ByteArray} {x : List It} {b : Nat} (h : fdB out = true) (hx : rfF out bad ls = (x, (b : Int))) (y : List It) (c : Nat) (hy : ∀ i ∈ x, i.key ∈ y.map It.key) :
    rfF y c ls = (y, ((c + (b - bad) : Nat) : Int)) := by
  induction ls generalizing out bad c with
  | nil =>
    rw [rfF_nil] at hx
    have : (bad : Int) = b := by injection hx
    have : bad = b := by omega
    subst this; simp [rfF_nil]
  | cons s ls ih =>
    rcases e : itL s.data.toList with ⟨i, ok⟩
    cases ok with
    | false =>
      rw [rfF_none e] at hx ⊢
      rcases rfF_inv (bad := bad + 1) (ls := ls) h with q | ⟨x', b', q1, q2, _, _⟩
      · rw [q] at hx
        have : (-1 : Int) = (b : Int) := by injection hx
        omega
      · rw [q1] at hx
        have : (b' : Int) = b := by injection hx
        rw [ih h (by rw [q1]; exact hx)]
        have : b' = b := by omega
        congr 2; omega
    | true =>
      by_cases hm : i.key ∈ out.map It.key
      · rw [rfF_twice e hm] at hx
        rcases rfF_inv (bad := bad) (ls := ls) h with q | ⟨x', b', q1, q2, _, q4⟩
        · rw [q] at hx
          have : (-1 : Int) = (b : Int) := by injection hx
          omega
        · have hxx : x' = x := by rw [q1] at hx; injection hx
          obtain ⟨j, hj, hk⟩ := List.mem_map.1 hm
          rw [rfF_twice e (by rw [← hk]; exact hy j (by rw [← hxx]; exact q4 j hj))]
          exact ih h hx c
      · by_cases h8 : 8 ≤ out.length
        · rw [rfF_full e hm h8] at hx
          have : (-1 : Int) = (b : Int) := by injection hx
          omega
        · rw [rfF_more e hm (by omega)] at hx
          have hi : itB i = true := by
            unfold itL at e
            split at e
            · exact (itR_ok e).1
            · cases e
          have hf := fdB_more h hi hm (by omega)
          rcases rfF_inv (bad := bad) (ls := ls) hf with q | ⟨x', b', q1, q2, _, q4⟩
          · rw [q] at hx
            have : (-1 : Int) = (b : Int) := by injection hx
            omega
          · have hxx : x' = x := by rw [q1] at hx; injection hx
            rw [rfF_twice e (hy i (by rw [← hxx]; exact q4 i (by simp)))]
            exact ih hf hx c
theorem rfF_app {out : List It} {bad : Nat} {ls ms : List ByteArray} {x : List It} {b : Nat} (h : fdB out = true) (hx : rfF out bad ls = (x, (b : Int))) : rfF out bad (ls ++ ms) = rfF x b ms := by
  induction ls generalizing out bad with
  | nil =>
    rw [rfF_nil] at hx
    have e1 : out = x := by injection hx
    have e2 : (bad : Int) = b := by injection hx
    have e3 : bad = b := by omega
    rw [e1, e3]; rfl
  | cons s ls ih =>
    rw [List.cons_append]
    rcases e : itL s.data.toList with ⟨i, ok⟩
    cases ok with
    | false => rw [rfF_none e] at hx ⊢; exact ih h hx
    | true =>
      by_cases hm : i.key ∈ out.map It.key
      · rw [rfF_twice e hm] at hx ⊢; exact ih h hx
      · by_cases h8 : 8 ≤ out.length
        · rw [rfF_full e hm h8] at hx
          have : (-1 : Int) = (b : Int) := by injection hx
          omega
        · rw [rfF_more e hm (by omega)] at hx ⊢
          have hi : itB i = true := by
            unfold itL at e
            split at e
            · exact (itR_ok e).1
            · cases e
          exact ih (fdB_more h hi hm (by omega)) hx
/-- twice the lines: the same feed, and twice as many none -/
theorem rfF_double {ls : List ByteArray} {x : List It} {b : Nat} (hx : rfF [] 0 ls = (x, (b : Int))) : rfF [] 0 (ls ++ ls) = (x, 2 * (b : Int)) := by
  rw [rfF_app fdB_nil hx, rfF_again fdB_nil hx x b (fun i m => List.mem_map_of_mem m)]
  congr 1; omega
theorem itL_text {i : It} (h : itB i = true) : itL (itT i) = (i, true) := by rw [itL_of (rdE_itE h), itR_itE h]
/-- the lines of a feed are read back -/
theorem rfF_lines {out r : List It} (h : fdB (out ++ r) = true) : rfF out 0 (r.map fun i => bs (itT i)) = (out ++ r, 0) := by
  induction r generalizing out with
  | nil => simp [rfF_nil]
  | cons i r ih =>
    obtain ⟨a, b, c⟩ := fdB_of h
    have hi := b i (by simp)
    have hk : ¬ i.key ∈ out.map It.key := by
      rw [List.map_append, List.nodup_append] at c
      intro hm
      exact c.2.2 _ hm i.key (by simp) rfl
    rw [List.map_cons, rfF_more (i := i) (by rw [bs_data]; exact itL_text hi) hk (by simp at a; omega)]
    have := ih (out := out ++ [i]) (by simpa using h)
    simpa using this
theorem rfF_drop {LS : List ByteArray} {k : Nat} (h : k < LS.length) : LS.drop k = LS[k] :: LS.drop (k + 1) := List.drop_eq_getElem_cons h
/-- the order of a feed: days descend, keys ascend -/
def ltI (a b : It) : Bool := decide (b.day < a.day) || (decide (a.day = b.day) && Op.bytesLess a.key.data.toList b.key.data.toList)
theorem bl_lt {a b : List UInt8} : Op.bytesLess a b = true ↔ a < b := by rw [bytesLess_eq]; exact decide_eq_true_iff
theorem bl_tri {a b : List UInt8} (h : a ≠ b) : Op.bytesLess a b = true ∨ Op.bytesLess b a = true := by
  rw [bl_lt, bl_lt]
  by_cases q : a < b
  · exact .inl q
  · by_cases k : b < a
    · exact .inr k
    · exact absurd (List.le_antisymm (List.not_lt.1 k) (List.not_lt.1 q)) h
theorem ltI_iff {a b : It} : ltI a b = true ↔ b.day < a.day ∨ (a.day = b.day ∧ Op.bytesLess a.key.data.toList b.key.data.toList = true) := by
  unfold ltI; simp
theorem ltI_asymm {a b : It} (h : ltI a b = true) : ltI b a = false := by
  rcases q : ltI b a with _ | _
  · rfl
  · rw [ltI_iff] at h q
    rcases h with h | ⟨h, h'⟩ <;> rcases q with q | ⟨q, q'⟩
    · omega
    · omega
    · omega
    · rw [(less_asymm h').1] at q'; cases q'
theorem ltI_trans {a b c : It} (h : ltI a b = true) (k : ltI b c = true) : ltI a c = true := by
  rw [ltI_iff] at h k ⊢
  rcases h with h | ⟨h, h'⟩ <;> rcases k with k | ⟨k, k'⟩
  · left; omega
  · left; omega
  · left; omega
  · right
    rw [bl_lt] at h' k' ⊢
    exact ⟨by omega, List.lt_trans h' k'⟩
theorem bytes_ne {a b : ByteArray} (h : a ≠ b) : a.data.toList ≠ b.data.toList := fun e => h (ByteArray.ext (Array.toList_inj.1 e))
theorem ltI_tri {a b : It} (h : a.key ≠ b.key) : ltI a b = true ∨ ltI b a = true := by
  rw [ltI_iff, ltI_iff]
  rcases Int.lt_trichotomy a.day b.day with q | q | q
  · exact .inr (.inl q)
  · rcases bl_tri (bytes_ne h) with k | k
    · exact .inl (.inr ⟨q, k⟩)
    · exact .inr (.inr ⟨q.symm, k⟩)
  · exact .inl (.inl q)
/-- an item put in where it stands -/
def insF (out : List It) (x : It) : List It := out.takeWhile (fun y => ltI y x) ++ x :: out.dropWhile (fun y => ltI y x)
def SortedF (L : List It) : Prop := L.Pairwise fun a b => ltI a b = true
theorem insF_at {out : List It} {x : It} {p : Nat} (hp : p ≤ out.length) (h1 : ∀ i (hi : i < out.length), i < p → ltI out[i] x = true) (h2 : ∀ h : p < out.length, ltI out[p] x = false) : insF out x = out.take p ++ x :: out.drop p := by
  have e : out = out.take p ++ out.drop p := (List.take_append_drop p out).symm
  have ht : ∀ y ∈ out.take p, ltI y x = true := fun y m => by
    obtain ⟨i, hi, rfl⟩ := List.getElem_of_mem m
    rw [List.length_take] at hi
    rw [List.getElem_take]
    exact h1 i (by omega) (by omega)
  have hd1 : (out.drop p).takeWhile (fun y => ltI y x) = [] ∧ (out.drop p).dropWhile (fun y => ltI y x) = out.drop p := by
    by_cases hl : p < out.length
    · rw [List.drop_eq_getElem_cons hl]
      rw [List.takeWhile_cons, List.dropWhile_cons, h2 hl, if_neg (by simp), if_neg (by simp)]
      exact ⟨rfl, rfl⟩
    · rw [List.drop_of_length_le (by omega)]; simp
  have t1 : out.takeWhile (fun y => ltI y x) = out.take p := by
    conv => lhs; rw [e]
    rw [List.takeWhile_append_of_pos ht, hd1.1, List.append_nil]
  have t2 : out.dropWhile (fun y => ltI y x) = out.drop p := by
    conv => lhs; rw [e]
    rw [List.dropWhile_append_of_pos ht, hd1.2]
  unfold insF
  rw [t1, t2]
theorem insF_back {out : List It} {x : It} {p : Nat} (hs : SortedF out) (hx : ∀ y ∈ out, y.key ≠ x.key) (hp : p ≤ out.length) (h1 : ∀ i (hi : i < out.length), p ≤ i → ltI x out[i] = true) (h2 : ∀ (h0 : 0 < p) (h : p - 1 < out.length), ltI x out[p - 1] = false) : insF out x = out.take p ++ x :: out.drop p := by
  refine insF_at hp (fun i hi hip => ?_) (fun h => ltI_asymm (h1 p h (Nat.le_refl _)))
  have hp1 : p - 1 < out.length := by omega
  have hl : ltI out[p - 1] x = true := by
    rcases ltI_tri (hx _ (List.getElem_mem hp1)) with q | q
    · exact q
    · rw [h2 (by omega) hp1] at q; cases q
  by_cases e : i = p - 1
  · subst e; exact hl
  · exact ltI_trans (List.pairwise_iff_getElem.1 hs i (p - 1) hi hp1 (by omega)) hl
theorem insF_mem {out : List It} {x y : It} : y ∈ insF out x ↔ y = x ∨ y ∈ out := by
  unfold insF
  conv => rhs; rw [← List.takeWhile_append_dropWhile (p := fun y => ltI y x) (l := out)]
  simp only [List.mem_append, List.mem_cons]
  constructor
  · rintro (h | h | h)
    · exact .inr (.inl h)
    · exact .inl h
    · exact .inr (.inr h)
  · rintro (h | h | h)
    · exact .inr (.inl h)
    · exact .inl h
    · exact .inr (.inr h)
theorem insF_perm (out : List It) (x : It) : (insF out x).Perm (x :: out) := by
  unfold insF
  refine List.perm_middle.trans ?_
  rw [List.takeWhile_append_dropWhile]
theorem insF_len (out : List It) (x : It) : (insF out x).length = out.length + 1 := by rw [(insF_perm out x).length_eq]; rfl
theorem insF_sorted {out : List It} {x : It} (hs : SortedF out) (hx : ∀ y ∈ out, y.key ≠ x.key) : SortedF (insF out x) := by
  have hs' := hs
  unfold SortedF at hs
  rw [← List.takeWhile_append_dropWhile (p := fun y => ltI y x) (l := out), List.pairwise_append] at hs
  unfold SortedF insF
  rw [List.pairwise_append, List.pairwise_cons]
  have ht : ∀ y ∈ out.takeWhile (fun y => ltI y x), ltI y x = true := fun y m => List.all_eq_true.1 List.all_takeWhile y m
  have hd : ∀ y ∈ out.dropWhile (fun y => ltI y x), ltI x y = true := by
    rcases e : out.dropWhile (fun y => ltI y x) with _ | ⟨z, r⟩
    · intro y m; simp at m
    · have hz : ltI z x = false := by
        have := List.head?_dropWhile_not (fun y => ltI y x) out
        rw [e] at this; simpa using this
      have hzm : z ∈ out := (List.dropWhile_sublist (fun y => ltI y x)).subset (by rw [e]; simp)
      have hxz : ltI x z = true := by
        rcases ltI_tri (hx z hzm) with q | q
        · rw [hz] at q; cases q
        · exact q
      intro y m
      rcases List.mem_cons.1 m with rfl | m
      · exact hxz
      · have := hs.2.1
        rw [e, List.pairwise_cons] at this
        exact ltI_trans hxz (this.1 y m)
  refine ⟨hs.1, ⟨hd, hs.2.1⟩, fun a ha b hb => ?_⟩
  rcases List.mem_cons.1 hb with rfl | hb
  · exact ht a ha
  · exact hs.2.2 a ha b hb
/-- sorted, one after the other -/
def srtF (L : List It) : List It := L.foldl insF []
theorem srtF_next {L : List It} {k : Nat} (h : k < L.length) : srtF (L.take (k + 1)) = insF (srtF (L.take k)) L[k] := by
  unfold srtF; rw [List.take_succ_eq_append_getElem h, List.foldl_append]; rfl
theorem srtF_zero (L : List It) : srtF (L.take 0) = [] := rfl
theorem foldF_perm (L out : List It) : (L.foldl insF out).Perm (L ++ out) := by
  induction L generalizing out with
  | nil => exact List.Perm.refl _
  | cons x L ih =>
    rw [List.foldl_cons]
    refine (ih _).trans ?_
    refine ((insF_perm out x).append_left L).trans ?_
    exact List.perm_middle
theorem srtF_perm (L : List It) : (srtF L).Perm L := by have := foldF_perm L []; rwa [List.append_nil] at this
theorem srtF_len (L : List It) : (srtF L).length = L.length := (srtF_perm L).length_eq
theorem srtF_mem {L : List It} {x : It} : x ∈ srtF L ↔ x ∈ L := (srtF_perm L).mem_iff
theorem key_ne {L : List It} (hn : (L.map It.key).Nodup) {k : Nat} (hk : k < L.length) : ∀ y ∈ L.take k, y.key ≠ L[k].key := by
  intro y m
  obtain ⟨i, hi, rfl⟩ := List.getElem_of_mem m
  rw [List.length_take] at hi
  rw [List.getElem_take]
  have := (List.pairwise_iff_getElem.1 hn) i k (by rw [List.length_map]; omega) (by rw [List.length_map]; omega) (by omega)
  rw [List.getElem_map, List.getElem_map] at this
  exact this
theorem srtF_sorted {L : List It} (hn : (L.map It.key).Nodup) (k : Nat) (hk : k ≤ L.length) : SortedF (srtF (L.take k)) := by
  induction k with
  | zero => exact List.Pairwise.nil
  | succ k ih =>
    rw [srtF_next (by omega)]
    exact insF_sorted (ih (by omega)) (fun y m => key_ne hn (by omega) y (srtF_mem.1 m))
def fdO (L : List It) : List It := if fdB L then srtF L else []
theorem fdO_in {L : List It} (h : fdB L = true) : fdO L = srtF L := by simp [fdO, h]
theorem fdO_out {L : List It} (h : fdB L = false) : fdO L = [] := by simp [fdO, h]
/-- a sorted list stays as it is -/
theorem insF_end {out : List It} {x : It} (h : ∀ y ∈ out, ltI y x = true) : insF out x = out ++ [x] := by
  have := insF_at (x := x) (p := out.length) (Nat.le_refl _) (fun i hi _ => h _ (List.getElem_mem hi)) (fun h => absurd h (by omega))
  rw [this]; simp
theorem foldF_same {L out : List It} (h : SortedF (out ++ L)) : L.foldl insF out = out ++ L := by
  induction L generalizing out with
  | nil => simp
  | cons x L ih =>
    have h' := h
    unfold SortedF at h'
    rw [List.pairwise_append] at h'
    rw [List.foldl_cons, insF_end (fun y m => h'.2.2 y m x (by simp)), ih (by simpa using h)]
    simp
theorem srtF_same {L : List It} (h : SortedF L) : srtF L = L := by have := foldF_same (out := []) (L := L) (by simpa using h); simpa [srtF] using this
theorem make_strs {ops : Array Oper} {rest : List Oper} {o : Oper} {a : Act} {Q : Exit → Act → World → Prop} {w : World} (hg : o.guard = none) (l c : Operand) (hop : o.op = Op.makeSlice 66 l c)
    (n : Nat) (hl : a.eval l = .int .i64 0) (hc : a.eval c = .int .i64 n) (hn : n ≤ 1073741824)
    (hK : ∀ w', OwnS w' w.heap.size (.slice (some ⟨w.heap.size, 0, none⟩) 0 n) [] → Below w.heap.size w w' → wpList Try.prog ops Q rest (a.put o.dst (.slice (some ⟨w.heap.size, 0, none⟩) 0 n)) w') : wpList Try.prog ops Q (o :: rest) a w := by
  obtain ⟨i0, hi, hz0, hz1, hz2⟩ := info_parts infoS
  refine wpList_make_own w hg l c 66 hop w.heap.size 9 i0 _ 1 Try.underlying66 hi hz0 hz1 .i64 .i64 n n hl hc rfl ?_ ?_ (Nat.le_refl _) ?_
  · rw [hz2]; omega
  · unfold maxLen; omega
  · intro w' h1 h2
    exact hK w' h1 ((Below.refl _ _).grown h2 (Nat.le_refl _) (fun k hk => by cases hk))
/-- a literal of one item -/
theorem rd_lit1 (w : World) (i : It) (t : TypeId) : RdG encI (w.alloc (.cells #[.string i.key, .string i.title, .string i.body, .int .i64 i.day] t)) (.slice (some ⟨w.heap.size, 0, none⟩) 1 1) [i] := by
  refine ⟨_, 1, rfl, by simp, by unfold maxLen; omega, .inr ⟨w.heap.size, 0, rfl, by simp, fun j u hj => ?_⟩⟩
  rw [Nat.zero_add, World.cell?_alloc_new]
  simpa [encI] using hj
/-- texts that can be read -/
def FitS (LS : List ByteArray) : Prop := ∀ s ∈ LS, s.size ≤ 90000000
theorem rdS_cell {w : World} {b o : Nat} {LS : List ByteArray} (h : ∀ j u, (LS.flatMap encS)[j]? = some u → w.cell? ⟨b, o + j, none⟩ = some u) {k : Nat} (hk : k < LS.length) : w.cell? ⟨b, o + k, none⟩ = some (.string LS[k]) := by
  have := h (k * 1) _ (flat_get encS_len LS k hk 0 (by omega))
  rwa [Nat.mul_one] at this
theorem itL_got {s : List UInt8} {L : EL} {ok : Bool} {k t b : ByteArray} {d : Int} {z : Bool} (h : RdE s L ok) (h' : itR L = (⟨k, t, b, d⟩, z)) : itL s = (⟨k, t, b, d⟩, z) := by rw [itL_of h, h']
theorem itL_valid {s : List UInt8} {i : It} (h : itL s = (i, true)) : itB i = true := by
  unfold itL at h
  split at h
  · exact (itR_ok h).1
  · cases h
theorem fit_itB {i : It} (h : itB i = true) : FitI i := by
  obtain ⟨a, b, _, d, _⟩ := itB_of h
  have h1 := (word_len a).2
  have h2 := textB_len b
  have h3 := textB_len d
  rw [blen] at h1 h2 h3
  exact ⟨by omega, by omega, by omega⟩
theorem fitF_of {L : List It} (h : fdB L = true) : FitF L := fun i m => fit_itB ((fdB_of h).2.1 i m)
theorem rd_kept {w w' : World} {g q : Nat} {i : It} (h : RdG encI w (.slice (some ⟨q, 0, none⟩) 1 1) [i]) (hg : w.grownBy w' (some g)) (hne : q ≠ g) : RdG encI w' (.slice (some ⟨q, 0, none⟩) 1 1) [i] := by
  obtain ⟨b, o, c, hv, _, hc, hb, h4⟩ := h.some (by simp)
  obtain ⟨⟨rfl, rfl⟩, rfl⟩ : (q = b ∧ 0 = o) ∧ 1 = c := by simpa using hv
  exact ⟨_, 1, rfl, by simp, hc, .inr ⟨q, 0, rfl, Nat.lt_of_lt_of_le hb hg.size, fun j u hj => by rw [kept_cell hg q _ hne hb]; exact h4 j u hj⟩⟩
theorem bel_1 (w4 : World) (o : Obj) : Below w4.heap.size w4 (w4.alloc o).drew := Below.drew ((Below.refl _ _).alloc (Nat.le_refl _) _)
theorem bel_2 (w4 : World) (o o' : Obj) : Below w4.heap.size w4 ((w4.alloc o).alloc o').drew := Below.drew (((Below.refl _ _).alloc (Nat.le_refl _) _).alloc (by simp) _)
theorem fit_snoc {L : List It} {i : It} (h : FitF L) (h' : FitI i) : FitF (L ++ [i]) := fun x m => by
  rcases List.mem_append.1 m with m | m
  · exact h x m
  · have : x = i := by simpa using m
    rw [this]; exact h'
theorem ltI_day {a b : It} (h : b.day < a.day) : ltI a b = true := ltI_iff.2 (.inl h)
theorem ltI_no {a b : It} (h : ¬ b.day < a.day) (h' : ¬ a.day = b.day) : ltI a b = false := by
  rcases q : ltI a b with _ | _
  · rfl
  · rcases ltI_iff.1 q with k | ⟨k, _⟩
    · exact absurd k h
    · exact absurd k h'
theorem ltI_key {a b : It} (h' : a.day = b.day) : ltI a b = Op.bytesLess a.key.toList b.key.toList := by
  unfold ltI; rw [h', ByteArray.toList_eq, ByteArray.toList_eq]; simp
end Go.Proofs.Ythniiknhbhoncaa
