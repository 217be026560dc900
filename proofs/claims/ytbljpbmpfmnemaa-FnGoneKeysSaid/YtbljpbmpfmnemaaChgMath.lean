/-
  The verifier's own text: ChgMath.
-/
import Derived.Test.YtbljpbmpfmnemaaGq
import Derived.Test.YtbljpbmpfmnemaaGt
import Derived.WalkKit
import Derived.Lib.Hide
namespace Go.Proofs.Ytbljpbmpfmnemaa
open Go.RowKit
set_option linter.unusedVariables false
instance itDec : DecidableEq It := fun a b => if h : a.key = b.key ∧ a.title = b.title ∧ a.body = b.body ∧ a.day = b.day then isTrue (by obtain ⟨a0, a1, a2, a3⟩ := a; obtain ⟨b0, b1, b2, b3⟩ := b; obtain ⟨h0, h1, h2, h3⟩ := h; simp only at h0 h1 h2 h3; subst h0; subst h1; subst h2; subst h3; rfl) else isFalse (by rintro rfl; exact h ⟨rfl, rfl, rfl, rfl⟩)
theorem itW1_mem {L : List It} {n : ByteArray} (h : (itW1 L n).2 = true) : (itW1 L n).1 ∈ L ∧ (itW1 L n).1.key = n := by
  induction L with
  | nil => cases h
  | cons a L ih =>
    by_cases e : a.key = n
    · simp [itW1, e]
    · simp only [itW1, e, if_false] at h ⊢
      exact ⟨List.mem_cons_of_mem _ (ih h).1, (ih h).2⟩
theorem itW1_no {L : List It} {n : ByteArray} (h : (itW1 L n).2 = false) : itW1 L n = (It.zero, false) ∧ ∀ i ∈ L, i.key ≠ n := by
  induction L with
  | nil => exact ⟨rfl, by simp⟩
  | cons a L ih =>
    by_cases e : a.key = n
    · simp [itW1, e] at h
    · simp only [itW1, e, if_false] at h ⊢
      refine ⟨(ih h).1, fun i m => ?_⟩
      rcases List.mem_cons.1 m with rfl | m
      · exact e
      · exact (ih h).2 i m
theorem itW1_has {L : List It} {n : ByteArray} {i : It} (m : i ∈ L) (e : i.key = n) : (itW1 L n).2 = true := by
  rcases q : (itW1 L n).2 with _ | _
  · exact absurd e ((itW1_no q).2 i m)
  · rfl
theorem key_inj {L : List It} (hn : (L.map It.key).Nodup) {i j : It} (hi : i ∈ L) (hj : j ∈ L) (e : i.key = j.key) : i = j := by
  obtain ⟨a, ha, rfl⟩ := List.getElem_of_mem hi
  obtain ⟨b, hb, rfl⟩ := List.getElem_of_mem hj
  have key := List.pairwise_iff_getElem.1 hn
  rcases Nat.lt_trichotomy a b with q | q | q
  · have := key a b (by rw [List.length_map]; omega) (by rw [List.length_map]; omega) q
    rw [List.getElem_map, List.getElem_map] at this; exact absurd e this
  · subst q; rfl
  · have := key b a (by rw [List.length_map]; omega) (by rw [List.length_map]; omega) q
    rw [List.getElem_map, List.getElem_map] at this; exact absurd e.symm this
theorem itW1_own {L : List It} (hn : (L.map It.key).Nodup) {i : It} (m : i ∈ L) : itW1 L i.key = (i, true) := by
  have h := itW1_has m rfl
  obtain ⟨a, b⟩ := itW1_mem h
  have := key_inj hn a m b
  exact Prod.ext this h
/-- what is new -/
def newP (A : List It) (i : It) : Bool := !(itW1 A i.key).2
def newF (A B : List It) : List It := if fdB A && fdB B then B.filter (newP A) else []
/-- what is changed -/
def chgP (A : List It) (i : It) : Bool := (itW1 A i.key).2 && !decide ((itW1 A i.key).1 = i)
def chgF (A B : List It) : List It := if fdB A && fdB B then B.filter (chgP A) else []
/-- what is gone -/
def gonF (A B : List It) : List ByteArray := (newF B A).map It.key
/-- merged -/
def mrgI (B : List It) (i : It) : It := if (itW1 B i.key).2 then (itW1 B i.key).1 else i
def mrg0 (A B : List It) : List It := if fdB A && fdB B then A.map (mrgI B) else []
def mrgF (A B : List It) : List It := if (mrg0 A B ++ newF A B).length ≤ 8 then mrg0 A B ++ newF A B else []
theorem newF_in {A B : List It} (a : fdB A = true) (b : fdB B = true) : newF A B = B.filter (newP A) := by simp [newF, a, b]
theorem newF_out {A B : List It} (h : (fdB A && fdB B) = false) : newF A B = [] := by simp [newF, h]
theorem chgF_in {A B : List It} (a : fdB A = true) (b : fdB B = true) : chgF A B = B.filter (chgP A) := by simp [chgF, a, b]
theorem chgF_out {A B : List It} (h : (fdB A && fdB B) = false) : chgF A B = [] := by simp [chgF, h]
theorem mrg0_in {A B : List It} (a : fdB A = true) (b : fdB B = true) : mrg0 A B = A.map (mrgI B) := by simp [mrg0, a, b]
theorem mrg0_out {A B : List It} (h : (fdB A && fdB B) = false) : mrg0 A B = [] := by simp [mrg0, h]
theorem filter_take {p : It → Bool} {L : List It} {k : Nat} (h : k < L.length) : (L.take (k + 1)).filter p = (L.take k).filter p ++ (if p L[k] then [L[k]] else []) := by
  rw [List.take_succ_eq_append_getElem h, List.filter_append]; congr 1; simp only [List.filter_cons, List.filter_nil]
theorem newF_len (A B : List It) : (newF A B).length ≤ 8 := by
  unfold newF; split
  · rename_i h
    rw [Bool.and_eq_true] at h
    exact Nat.le_trans (List.length_filter_le _ _) (fdB_of h.2).1
  · simp
theorem chgF_len (A B : List It) : (chgF A B).length ≤ 8 := by
  unfold chgF; split
  · rename_i h
    rw [Bool.and_eq_true] at h
    exact Nat.le_trans (List.length_filter_le _ _) (fdB_of h.2).1
  · simp
theorem mrg0_len (A B : List It) : (mrg0 A B).length ≤ 8 := by
  unfold mrg0; split
  · rename_i h
    rw [Bool.and_eq_true] at h
    rw [List.length_map]; exact (fdB_of h.1).1
  · simp
/-- a list of valid items with different keys, not too many -/
theorem fdB_sub {L M : List It} (h : fdB L = true) (s : List.Sublist M L) : fdB M = true :=
  fdB_mk (Nat.le_trans s.length_le (fdB_of h).1) (fun i m => (fdB_of h).2.1 i (s.subset m)) ((s.map It.key).nodup (fdB_of h).2.2)
theorem fdB_perm {L M : List It} (h : fdB L = true) (s : M.Perm L) : fdB M = true :=
  fdB_mk (by rw [s.length_eq]; exact (fdB_of h).1) (fun i m => (fdB_of h).2.1 i (s.mem_iff.1 m)) ((s.map It.key).nodup_iff.2 (fdB_of h).2.2)
theorem newF_mem {A B : List It} {i : It} (m : i ∈ newF A B) : fdB A = true ∧ fdB B = true ∧ i ∈ B ∧ (itW1 A i.key).2 = false := by
  unfold newF at m
  split at m
  · rename_i h
    rw [Bool.and_eq_true] at h
    obtain ⟨a, b⟩ := List.mem_filter.1 m
    exact ⟨h.1, h.2, a, by simpa [newP] using b⟩
  · simp at m
/-- the law of new items -/
theorem newF_law {A B : List It} {i : It} (m : i ∈ newF A B) : itW A i.key = (It.zero, false) ∧ itW B i.key = (i, true) := by
  obtain ⟨a, b, c, d⟩ := newF_mem m
  rw [itW_in _ a, itW_in _ b]
  exact ⟨(itW1_no d).1, itW1_own (fdB_of b).2.2 c⟩
theorem newF_none {A B : List It} (h : ∀ i ∈ B, ∃ j ∈ A, j.key = i.key) : newF A B = [] := by
  unfold newF; split
  · rw [List.filter_eq_nil_iff]
    intro i m
    obtain ⟨j, mj, e⟩ := h i m
    simp [newP, itW1_has mj e]
  · rfl
theorem newF_self (A : List It) : newF A A = [] := newF_none fun i m => ⟨i, m, rfl⟩
theorem chgF_mem {A B : List It} {i : It} (m : i ∈ chgF A B) : fdB A = true ∧ fdB B = true ∧ i ∈ B ∧ (itW1 A i.key).2 = true ∧ (itW1 A i.key).1 ≠ i := by
  unfold chgF at m
  split at m
  · rename_i h
    rw [Bool.and_eq_true] at h
    obtain ⟨a, b⟩ := List.mem_filter.1 m
    simp only [chgP, Bool.and_eq_true, Bool.not_eq_true', decide_eq_false_iff_not] at b
    exact ⟨h.1, h.2, a, b.1, b.2⟩
  · simp at m
/-- as before -/
def samP (A : List It) (i : It) : Bool := (itW1 A i.key).2 && decide ((itW1 A i.key).1 = i)
theorem three_len (A B : List It) : (B.filter (chgP A)).length + (B.filter (newP A)).length + (B.filter (samP A)).length = B.length := by
  induction B with
  | nil => rfl
  | cons i B ih =>
    simp only [List.filter_cons, List.length_cons]
    rcases a : (itW1 A i.key).2 with _ | _
    · have hc : chgP A i = false := by simp [chgP, a]
      have hn : newP A i = true := by simp [newP, a]
      have hs : samP A i = false := by simp [samP, a]
      rw [hc, hn, hs]; simp; omega
    · by_cases e : (itW1 A i.key).1 = i
      · have hc : chgP A i = false := by simp [chgP, a, e]
        have hn : newP A i = false := by simp [newP, a]
        have hs : samP A i = true := by simp [samP, a, e]
        rw [hc, hn, hs]; simp; omega
      · have hc : chgP A i = true := by simp [chgP, a, e]
        have hn : newP A i = false := by simp [newP, a]
        have hs : samP A i = false := by simp [samP, e]
        rw [hc, hn, hs]; simp; omega
theorem chgF_law {A B : List It} {i : It} (m : i ∈ chgF A B) : (itW A i.key).2 = true ∧ (itW A i.key).1 ≠ i := by
  obtain ⟨a, _, _, d, e⟩ := chgF_mem m
  rw [itW_in _ a]; exact ⟨d, e⟩
/-- the law of gone keys -/
theorem gonF_at {A B : List It} {k : Nat} (h : k < (gonF A B).length) : ∃ h' : k < (newF B A).length, (gonF A B)[k] = (newF B A)[k].key := by
  have h' : k < (newF B A).length := by unfold gonF at h; rwa [List.length_map] at h
  exact ⟨h', by simp only [gonF, List.getElem_map]⟩
theorem gonF_law {A B : List It} {k : Nat} (h : k < (gonF A B).length) : (itW B (gonF A B)[k]).2 = false := by
  obtain ⟨h', e⟩ := gonF_at h
  rw [e, (newF_law (List.getElem_mem h')).1]
/-- the laws of merged feeds -/
theorem mrgI_key (B : List It) (i : It) : (mrgI B i).key = i.key := by
  unfold mrgI; split
  · rename_i h; exact (itW1_mem h).2
  · rfl
theorem mrgF_valid {A B : List It} (h : mrgF A B ≠ []) : fdB A = true ∧ fdB B = true ∧ mrgF A B = A.map (mrgI B) ++ B.filter (newP A) ∧ (mrgF A B).length ≤ 8 := by
  rcases q : (fdB A && fdB B) with _ | _
  · exfalso; apply h; unfold mrgF; rw [mrg0_out q, newF_out q]; rfl
  · rw [Bool.and_eq_true] at q
    by_cases l : (mrg0 A B ++ newF A B).length ≤ 8
    · have e : mrgF A B = mrg0 A B ++ newF A B := by unfold mrgF; rw [if_pos l]
      refine ⟨q.1, q.2, by rw [e, mrg0_in q.1 q.2, newF_in q.1 q.2], by rw [e]; exact l⟩
    · exfalso; apply h; unfold mrgF; rw [if_neg l]
theorem mrg_keys (A B : List It) : (A.map (mrgI B) ++ B.filter (newP A)).map It.key = A.map It.key ++ (B.filter (newP A)).map It.key := by
  rw [List.map_append, List.map_map]; congr 1; apply List.map_congr_left; intro i _; exact mrgI_key B i
theorem mrgF_fdB {A B : List It} (h : mrgF A B ≠ []) : fdB (mrgF A B) = true := by
  obtain ⟨a, b, e, l⟩ := mrgF_valid h
  refine fdB_mk l (fun i m => ?_) ?_
  · rw [e] at m
    rcases List.mem_append.1 m with m | m
    · obtain ⟨j, mj, rfl⟩ := List.mem_map.1 m
      unfold mrgI; split
      · rename_i q; exact (fdB_of b).2.1 _ (itW1_mem q).1
      · exact (fdB_of a).2.1 _ mj
    · exact (fdB_of b).2.1 _ (List.mem_filter.1 m).1
  · rw [e, mrg_keys, List.nodup_append]
    refine ⟨(fdB_of a).2.2, ((List.filter_sublist).map It.key).nodup (fdB_of b).2.2, fun x hx y hy hxy => ?_⟩
    obtain ⟨i, mi, rfl⟩ := List.mem_map.1 hx
    obtain ⟨j, mj, rfl⟩ := List.mem_map.1 hy
    have := (List.mem_filter.1 mj).2
    have hh := itW1_has mi hxy
    simp [newP, hh] at this
/-- who has the key of j in the merged feed is j -/
theorem mrgF_has {A B : List It} (h : mrgF A B ≠ []) {j : It} (m : j ∈ B) : j ∈ mrgF A B := by
  obtain ⟨a, b, e, l⟩ := mrgF_valid h
  rw [e]
  rcases q : (itW1 A j.key).2 with _ | _
  · exact List.mem_append_right _ (List.mem_filter.2 ⟨m, by simp [newP, q]⟩)
  · refine List.mem_append_left _ (List.mem_map.2 ⟨(itW1 A j.key).1, (itW1_mem q).1, ?_⟩)
    unfold mrgI
    rw [(itW1_mem q).2, itW1_own (fdB_of b).2.2 m]; rfl
theorem mrgF_new {A B : List It} (h : mrgF A B ≠ []) : newF (mrgF A B) B = [] := newF_none fun i m => ⟨i, mrgF_has h m, rfl⟩
theorem mrgF_chg {A B : List It} (h : mrgF A B ≠ []) : chgF (mrgF A B) B = [] := by
  have hv := mrgF_fdB h
  obtain ⟨a, b, e, l⟩ := mrgF_valid h
  rw [chgF_in hv b, List.filter_eq_nil_iff]
  intro i m
  have := itW1_own (fdB_of hv).2.2 (mrgF_has h m)
  simp [chgP, this]
theorem mrgF_gon {A B : List It} (h : mrgF A B ≠ []) : gonF A (mrgF A B) = [] := by
  obtain ⟨a, b, e, l⟩ := mrgF_valid h
  unfold gonF
  rw [newF_none (A := mrgF A B) (B := A)]
  · rfl
  · intro i m
    refine ⟨mrgI B i, ?_, mrgI_key B i⟩
    rw [e]; exact List.mem_append_left _ (List.mem_map_of_mem m)
/-- the law of sorted feeds -/
theorem srtF_fdB {L : List It} (h : fdB L = true) : fdB (srtF L) = true := fdB_perm h (srtF_perm L)
theorem srtF_new (L : List It) : newF (srtF L) L = [] := newF_none fun i m => ⟨i, srtF_mem.2 m, rfl⟩
theorem srtF_srt {L : List It} (h : fdB L = true) : SortedF (srtF L) := by
  have := srtF_sorted (fdB_of h).2.2 L.length (Nat.le_refl _)
  rwa [List.take_length] at this
theorem srtF_again {L : List It} (h : fdB L = true) : fdO (srtF L) = srtF L := by rw [fdO_in (srtF_fdB h), srtF_same (srtF_srt h)]
theorem srtF_step {L : List It} (h : fdB L = true) {k : Nat} (h1 : 0 < k) (hk : k < (srtF L).length) : ltI (srtF L)[k - 1] (srtF L)[k] = true :=
  List.pairwise_iff_getElem.1 (srtF_srt h) (k - 1) k (by omega) hk (by omega)
end Go.Proofs.Ytbljpbmpfmnemaa
