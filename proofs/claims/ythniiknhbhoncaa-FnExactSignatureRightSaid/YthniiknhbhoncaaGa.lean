/-
  The verifier's own text: Plain TextMath PlainMath EscMath EscMore UnMath ElemMath ElemRead DaysMath MarkMath DateLess Got GotTB Quiet Own.
-/
import Derived.Test.YthniiknhbhoncaaRows
import Derived.Sort.Walk0
import Derived.Laws.NewBlocks
import Derived.Laws.IdiomStrings
import Derived.WalkKit
import Derived.ProofKit
import Derived.Below
import Derived.Lib.Hide
import Derived.Outline
import Derived.BigQuiet
import Derived.Deep.QuietTactic
import Derived.Deep.Draws
import Derived.Laws.OwnMore
import Derived.Laws.Rows
import Derived.WalkSpells
import Derived.Deep.RegionWith
namespace Go.Proofs.Ythniiknhbhoncaa
open Go.RowKit
set_option linter.unusedVariables false
/-- a text out of its bytes (closed to the walk) -/
def bs (l : List UInt8) : ByteArray := ⟨l.toArray⟩
theorem bs_append (a b : List UInt8) : bs a ++ bs b = bs (a ++ b) := by
  apply ByteArray.ext; simp [bs]
theorem bs_list (s : ByteArray) : bs s.data.toList = s := rfl
theorem bs_data (l : List UInt8) : (bs l).data.toList = l := rfl
theorem bs_size (l : List UInt8) : (bs l).size = l.length := rfl
theorem str_same {a b : ByteArray} (h : a = b) : (a.toList == b.toList) = true := by rw [h]; simp
theorem str_other {a b : ByteArray} (h : ¬ a = b) : (a.toList == b.toList) = false := by
  rw [beq_eq_false_iff_ne, ByteArray.toList_eq, ByteArray.toList_eq]
  exact fun e => h (ByteArray.ext (Array.toList_inj.1 e))
theorem str_nil {s : ByteArray} (h : s.size = 0) : s.toList = [] := by
  rw [ByteArray.toList_eq]; exact List.length_eq_zero_iff.1 (by simpa using h)
theorem str_ne {s : ByteArray} (h : s.size ≠ 0) : ¬ s.toList = [] := by
  rw [ByteArray.toList_eq]; intro e
  have := congrArg List.length e; simp only [List.length_nil, Array.length_toList] at this; exact h this
theorem str_full {s : ByteArray} (h : s.size ≠ 0) : s.toList.isEmpty = false := by
  rw [List.isEmpty_eq_false_iff]; exact str_ne h
theorem bs_inj {a b : List UInt8} (h : bs a = bs b) : a = b := by rw [← bs_data a, h, bs_data]
def digI (n : Int) : Bool := decide (48 ≤ n ∧ n ≤ 57)
def smlI (n : Int) : Bool := decide (97 ≤ n ∧ n ≤ 122)
def inB (n lo hi : Int) : Bool := decide (lo ≤ n ∧ n ≤ hi)
theorem inB_true {n lo hi : Int} (h : lo ≤ n) (h' : n ≤ hi) : inB n lo hi = true := by simp [inB, h, h']
theorem inB_lo {n lo hi : Int} (h : n < lo) : inB n lo hi = false := by simp [inB]; omega
theorem inB_hi {n lo hi : Int} (h : hi < n) : inB n lo hi = false := by simp [inB]; omega
/-- a byte of a word -/
def wcB (c : UInt8) : Bool := digI c.toNat || smlI c.toNat
def wordB (l : List UInt8) : Bool := decide (1 ≤ l.length ∧ l.length ≤ 8) && !(digI (l.headD 0).toNat) && l.all wcB
theorem blen (s : ByteArray) : s.data.toList.length = s.size := by simp
theorem bget (s : ByteArray) (k : Nat) (h : k < s.size) : s.data.toList[k]'(by simpa using h) = s[k] := rfl
theorem btake (s : ByteArray) (k : Nat) (h : k < s.size) : s.data.toList.take (k + 1) = s.data.toList.take k ++ [s[k]] := by
  rw [List.take_succ_eq_append_getElem (by simpa using h)]; rfl
theorem bfull (s : ByteArray) (k : Nat) (h : s.size ≤ k) : s.data.toList.take k = s.data.toList := List.take_of_length_le (by simpa using h)
theorem bmem (s : ByteArray) (k : Nat) (h : k < s.size) : s[k] ∈ s.data.toList := by rw [← bget s k h]; exact List.getElem_mem _
theorem hd0 (l : List UInt8) (h : 0 < l.length) : l.headD 0 = l[0] := by
  cases l with
  | nil => simp at h
  | cons a l => rfl
theorem bhead (s : ByteArray) (h : 0 < s.size) : s.data.toList.headD 0 = s[0] := hd0 _ (by simpa using h)
theorem all_snoc {s : ByteArray} {p : UInt8 → Bool} {k : Nat} (h : k < s.size) (a : (s.data.toList.take k).all p = true) (b : p s[k] = true) : (s.data.toList.take (k + 1)).all p = true := by
  rw [btake s k h, List.all_append, a]; simp [b]
theorem all_bad {s : ByteArray} {p : UInt8 → Bool} {k : Nat} (h : k < s.size) (b : p s[k] = false) : s.data.toList.all p = false := by
  rw [List.all_eq_false]; exact ⟨_, bmem s k h, by simp [b]⟩
theorem word_short {s : ByteArray} (h : s.size < 1 ∨ 8 < s.size) : wordB s.data.toList = false := by
  unfold wordB; rw [blen]
  have : decide (1 ≤ s.size ∧ s.size ≤ 8) = false := by simp; omega
  rw [this]; rfl
theorem word_dig {s : ByteArray} (h : 0 < s.size) (d : digI (s[0].toNat : Int) = true) : wordB s.data.toList = false := by
  unfold wordB; rw [bhead s h, d]; simp
theorem word_bad {s : ByteArray} {k : Nat} (h : k < s.size) (b : wcB s[k] = false) : wordB s.data.toList = false := by
  unfold wordB; rw [all_bad h b]; simp
theorem word_ok {s : ByteArray} (h1 : 1 ≤ s.size) (h2 : s.size ≤ 8) (d : digI (s[0].toNat : Int) = false) (a : s.data.toList.all wcB = true) : wordB s.data.toList = true := by
  unfold wordB; rw [blen, bhead s h1, d, a]; simp; omega
theorem wc_dig {c : UInt8} (h : digI c.toNat = true) : wcB c = true := by simp [wcB, h]
theorem wc_sml {c : UInt8} (h : smlI c.toNat = true) : wcB c = true := by simp [wcB, h]
theorem wc_no {c : UInt8} (h : digI c.toNat = false) (h' : smlI c.toNat = false) : wcB c = false := by simp [wcB, h, h']
/-- the first k bytes could begin a word -/
def PreW (l : List UInt8) (k : Nat) : Prop := (l.take k).all wcB = true ∧ (k = 0 ∨ digI (l.headD 0).toNat = false)
theorem preW_zero (l : List UInt8) : PreW l 0 := ⟨rfl, .inl rfl⟩
theorem preW_sml {s : ByteArray} {k : Nat} (h : k < s.size) (p : PreW s.data.toList k) (a : 97 ≤ (s[k].toNat : Int)) (b : (s[k].toNat : Int) ≤ 122) : PreW s.data.toList (k + 1) := by
  refine ⟨all_snoc h p.1 (wc_sml (by simp [smlI, a, b])), ?_⟩
  rcases p.2 with e | e
  · subst e
    right; rw [bhead s h]; simp [digI]; omega
  · exact .inr e
theorem preW_dig {s : ByteArray} {k : Nat} (h : k < s.size) (h0 : 0 < k) (p : PreW s.data.toList k) (a : 48 ≤ (s[k].toNat : Int)) (b : (s[k].toNat : Int) ≤ 57) : PreW s.data.toList (k + 1) := by
  refine ⟨all_snoc h p.1 (wc_dig (by simp [digI, a, b])), ?_⟩
  rcases p.2 with e | e
  · omega
  · exact .inr e
theorem word_bad0 {s : ByteArray} (h : 0 < s.size) (a : (s[0].toNat : Int) < 97 ∨ 122 < (s[0].toNat : Int)) : wordB s.data.toList = false := by
  rcases hx : digI (s[0].toNat : Int) with _ | _
  · exact word_bad h (wc_no hx (by simp [smlI]; omega))
  · exact word_dig h hx
theorem word_badk {s : ByteArray} {k : Nat} (h : k < s.size) (a : (s[k].toNat : Int) < 97 ∨ 122 < (s[k].toNat : Int)) (b : (s[k].toNat : Int) < 48 ∨ 57 < (s[k].toNat : Int)) : wordB s.data.toList = false :=
  word_bad h (wc_no (by simp [digI]; omega) (by simp [smlI]; omega))
theorem word_pre {s : ByteArray} {k : Nat} (h : s.size ≤ k) (hk : k ≤ s.size) (p : PreW s.data.toList k) : inB s.size 1 8 = wordB s.data.toList := by
  by_cases hz : s.size < 1 ∨ 8 < s.size
  · rw [word_short hz]; simp [inB]; omega
  · obtain ⟨a, b⟩ := p
    rw [bfull s k h] at a
    have hd : digI (s[0]'(by omega)).toNat = false := by
      rcases b with b | b
      · omega
      · rw [← bhead s (by omega)]; exact b
    rw [word_ok (by omega) (by omega) hd a]; simp [inB]; omega
theorem ret_bool {a b : Bool} (h : a = b) : Ending.returned (.bool a) = .returned (.bool b) := by rw [h]
theorem ret_int {k : IntKind} {a b : Int} (h : a = b) : Ending.returned (.int k a) = .returned (.int k b) := by rw [h]
theorem ret_str {a b : List UInt8} (h : a = b) : Ending.returned (.string (bs a)) = .returned (.string (bs b)) := by rw [h]
theorem digI_true {n : Int} (h : 48 ≤ n) (h' : n ≤ 57) : digI n = true := by simp [digI, h, h']
theorem smlI_true {n : Int} (h : 97 ≤ n) (h' : n ≤ 122) : smlI n = true := by simp [smlI, h, h']
theorem digI_no {n : Int} (h : n < 48 ∨ 57 < n) : digI n = false := by simp [digI]; omega
theorem smlI_no {n : Int} (h : n < 97 ∨ 122 < n) : smlI n = false := by simp [smlI]; omega
theorem digI_bd {n : Int} (h : digI n = true) : 48 ≤ n ∧ n ≤ 57 := by simpa [digI] using h
theorem smlI_bd {n : Int} (h : smlI n = true) : 97 ≤ n ∧ n ≤ 122 := by simpa [smlI] using h
def tcB (c : UInt8) : Bool := decide (32 ≤ (c.toNat : Int) ∧ (c.toNat : Int) ≤ 126)
def textB (l : List UInt8) : Bool := decide (l.length ≤ 80) && l.all tcB
def PreT (l : List UInt8) (k : Nat) : Prop := (l.take k).all tcB = true
theorem text_long {s : ByteArray} (h : 80 < s.size) : textB s.data.toList = false := by
  unfold textB; rw [blen]
  have : decide (s.size ≤ 80) = false := by simp; omega
  rw [this]; rfl
theorem tc_bad {c : UInt8} (h : (c.toNat : Int) < 32 ∨ 126 < (c.toNat : Int)) : tcB c = false := by simp [tcB]; omega
theorem text_bad {s : ByteArray} {k : Nat} (h : k < s.size) (a : (s[k].toNat : Int) < 32 ∨ 126 < (s[k].toNat : Int)) : textB s.data.toList = false := by
  unfold textB; rw [all_bad h (tc_bad a)]; simp
theorem preT_next {s : ByteArray} {k : Nat} (h : k < s.size) (p : PreT s.data.toList k) (a : 32 ≤ (s[k].toNat : Int)) (b : (s[k].toNat : Int) ≤ 126) : PreT s.data.toList (k + 1) :=
  all_snoc h p (by simp [tcB]; omega)
theorem text_pre {s : ByteArray} {k : Nat} (h : s.size ≤ k) (p : PreT s.data.toList k) : decide ((s.size : Int) ≤ 80) = textB s.data.toList := by
  unfold PreT at p
  rw [bfull s k h] at p
  unfold textB; rw [p, blen]; simp [decide_eq_decide]; omega
/-- inside of angle brackets, and what stood outside, byte by byte -/
def plS (p : Bool × List UInt8) (c : UInt8) : Bool × List UInt8 :=
  if c = 60 then (true, p.2) else if p.1 then (decide (c ≠ 62), p.2) else (false, p.2 ++ [c])
def plF (l : List UInt8) : Bool × List UInt8 := l.foldl plS (false, [])
def plT (l : List UInt8) : List UInt8 := if textB l then (plF l).2 else []
theorem plF_snoc (l : List UInt8) (c : UInt8) : plF (l ++ [c]) = plS (plF l) c := by simp [plF]
theorem plF_take {s : ByteArray} {k : Nat} (h : k < s.size) : plF (s.data.toList.take (k + 1)) = plS (plF (s.data.toList.take k)) s[k] := by rw [btake s k h, plF_snoc]
theorem plT_in {l : List UInt8} (h : textB l = true) : plT l = (plF l).2 := by simp [plT, h]
theorem plT_out {l : List UInt8} (h : textB l = false) : plT l = [] := by simp [plT, h]
theorem plS_open (p : Bool × List UInt8) : plS p 60 = (true, p.2) := rfl
theorem plS_shut {p : Bool × List UInt8} (h : p.1 = true) : plS p 62 = (false, p.2) := by simp [plS, h]
theorem plS_in {p : Bool × List UInt8} {c : UInt8} (h : p.1 = true) (a : c ≠ 60) (b : c ≠ 62) : plS p c = (true, p.2) := by simp [plS, h, a, b]
theorem plS_out {p : Bool × List UInt8} {c : UInt8} (h : p.1 = false) (a : c ≠ 60) : plS p c = (false, p.2 ++ [c]) := by simp [plS, h, a]
theorem plG (l : List UInt8) : ∀ (p : Bool × List UInt8), (l.foldl plS p).2.length ≤ p.2.length + l.length ∧ ∀ x ∈ (l.foldl plS p).2, x ∈ p.2 ∨ (x ∈ l ∧ x ≠ 60) := by
  induction l with
  | nil => intro p; simp
  | cons c l ih =>
    intro p
    have := ih (plS p c)
    have hp : (plS p c).2 = p.2 ∨ ((plS p c).2 = p.2 ++ [c] ∧ c ≠ 60) := by
      unfold plS
      by_cases a : c = 60
      · rw [if_pos a]; exact .inl rfl
      · rw [if_neg a]
        cases p.1
        · exact .inr ⟨rfl, a⟩
        · exact .inl rfl
    simp only [List.foldl_cons, List.length_cons]
    rcases hp with hp | ⟨hp, hc⟩
    · rw [hp] at this
      refine ⟨by omega, fun x hx => ?_⟩
      rcases this.2 x hx with h | h
      · exact .inl h
      · exact .inr ⟨by simp [h.1], h.2⟩
    · rw [hp] at this
      refine ⟨by have := this.1; simp at this; omega, fun x hx => ?_⟩
      rcases this.2 x hx with h | h
      · rcases List.mem_append.1 h with h | h
        · exact .inl h
        · have : x = c := by simpa using h
          subst this; exact .inr ⟨by simp, hc⟩
      · exact .inr ⟨by simp [h.1], h.2⟩
theorem plF_len (l : List UInt8) : (plF l).2.length ≤ l.length := by have := (plG l (false, [])).1; simpa [plF] using this
theorem plF_mem (l : List UInt8) (x : UInt8) (h : x ∈ (plF l).2) : x ∈ l ∧ x ≠ 60 := by
  have := (plG l (false, [])).2 x h; simpa using this
theorem plT_len (l : List UInt8) : (plT l).length ≤ l.length := by
  unfold plT
  rcases textB l with _ | _
  · simp
  · exact plF_len l
theorem plT_80 (l : List UInt8) : (plT l).length ≤ 80 := by
  unfold plT
  rcases h : textB l with _ | _
  · simp
  · simp only [if_true]
    have h1 : l.length ≤ 80 := by unfold textB at h; simp at h; exact h.1
    have := plF_len l; omega
theorem plT_no (l : List UInt8) (x : UInt8) (h : x ∈ plT l) : x ≠ 60 := by
  unfold plT at h
  rcases ht : textB l with _ | _
  · rw [ht] at h; simp at h
  · rw [ht] at h; exact (plF_mem l x h).2
theorem textB_mem {l : List UInt8} (h : textB l = true) : l.length ≤ 80 ∧ ∀ x ∈ l, tcB x = true := by
  unfold textB at h; simpa using h
theorem textB_of {l : List UInt8} (a : l.length ≤ 80) (b : ∀ x ∈ l, tcB x = true) : textB l = true := by
  unfold textB; simp [a]; exact b
theorem plF_id (l : List UInt8) (h : ∀ x ∈ l, x ≠ 60) : ∀ o, l.foldl plS (false, o) = (false, o ++ l) := by
  induction l with
  | nil => intro o; simp
  | cons c l ih =>
    intro o
    rw [List.foldl_cons, plS_out rfl (h c (by simp)), ih (fun x hx => h x (by simp [hx]))]
    simp
/-- what is plain stays so -/
theorem plT_plT (l : List UInt8) : plT (plT l) = plT l := by
  rcases h : textB l with _ | _
  · rw [plT_out h]; rfl
  · rw [plT_in h]
    obtain ⟨h1, h2⟩ := textB_mem h
    have hv : textB (plF l).2 = true := textB_of (by have := plF_len l; omega) (fun x hx => h2 x (plF_mem l x hx).1)
    rw [plT_in hv]
    show ((plF l).2.foldl plS (false, [])).2 = _
    rw [plF_id _ (fun x hx => (plF_mem l x hx).2)]; rfl
/-- the name of a byte, nothing for a byte that stands for itself -/
def nmL (c : UInt8) : List UInt8 := if c = 38 then [38, 97, 109, 112, 59] else if c = 60 then [38, 108, 116, 59] else if c = 62 then [38, 103, 116, 59] else if c = 34 then [38, 113, 117, 111, 116, 59] else []
def escB (c : UInt8) : List UInt8 := if nmL c = [] then [c] else nmL c
def escL (l : List UInt8) : List UInt8 := l.flatMap escB
def escT (l : List UInt8) : List UInt8 := if textB l then escL l else []
theorem nm_cases (c : UInt8) : (c = 38 ∧ nmL c = [38, 97, 109, 112, 59]) ∨ (c = 60 ∧ nmL c = [38, 108, 116, 59]) ∨ (c = 62 ∧ nmL c = [38, 103, 116, 59]) ∨ (c = 34 ∧ nmL c = [38, 113, 117, 111, 116, 59]) ∨ (c ≠ 38 ∧ c ≠ 60 ∧ c ≠ 62 ∧ c ≠ 34 ∧ nmL c = []) := by
  by_cases a : c = 38
  · subst a; exact .inl ⟨rfl, rfl⟩
  · by_cases b : c = 60
    · subst b; exact .inr (.inl ⟨rfl, rfl⟩)
    · by_cases d : c = 62
      · subst d; exact .inr (.inr (.inl ⟨rfl, rfl⟩))
      · by_cases e : c = 34
        · subst e; exact .inr (.inr (.inr (.inl ⟨rfl, rfl⟩)))
        · exact .inr (.inr (.inr (.inr ⟨a, b, d, e, by simp [nmL, a, b, d, e]⟩)))
theorem escB_plain {c : UInt8} (h : nmL c = []) : escB c = [c] := by simp [escB, h]
theorem escB_named {c : UInt8} (h : nmL c ≠ []) : escB c = nmL c := by simp [escB, h]
theorem escB_len (c : UInt8) : 1 ≤ (escB c).length ∧ (escB c).length ≤ 6 := by
  rcases nm_cases c with ⟨_, h⟩ | ⟨_, h⟩ | ⟨_, h⟩ | ⟨_, h⟩ | ⟨_, _, _, _, h⟩
  all_goals (simp [escB, h])
theorem nm_len (c : UInt8) : (nmL c).length ≤ 6 := by
  rcases nm_cases c with ⟨_, h⟩ | ⟨_, h⟩ | ⟨_, h⟩ | ⟨_, h⟩ | ⟨_, _, _, _, h⟩
  all_goals (simp [h])
theorem escB_pre {c d : UInt8} {a b : List UInt8} (h : escB c ++ a = escB d ++ b) : c = d := by
  rcases nm_cases c with ⟨rfl, hc⟩ | ⟨rfl, hc⟩ | ⟨rfl, hc⟩ | ⟨rfl, hc⟩ | ⟨c1, c2, c3, c4, hc⟩
  all_goals rcases nm_cases d with ⟨rfl, hd⟩ | ⟨rfl, hd⟩ | ⟨rfl, hd⟩ | ⟨rfl, hd⟩ | ⟨d1, d2, d3, d4, hd⟩
  all_goals (simp [escB, hc, hd] at h ⊢)
  all_goals first | exact h.1 | (exact absurd h.1 (by first | assumption | exact fun e => by simp_all))
theorem escL_nil : escL [] = [] := rfl
theorem escL_cons (c : UInt8) (l : List UInt8) : escL (c :: l) = escB c ++ escL l := by simp [escL]
theorem escL_append (a b : List UInt8) : escL (a ++ b) = escL a ++ escL b := by simp [escL]
theorem escL_snoc (a : List UInt8) (c : UInt8) : escL (a ++ [c]) = escL a ++ escB c := by simp [escL]
theorem escL_pre : ∀ (t t' r : List UInt8), escL t' = escL t ++ r → ∃ t2, t' = t ++ t2 ∧ escL t2 = r := by
  intro t
  induction t with
  | nil => intro t' r h; exact ⟨t', rfl, by simpa [escL_nil] using h⟩
  | cons c t ih =>
    intro t' r h
    rw [escL_cons, List.append_assoc] at h
    cases t' with
    | nil =>
      have := congrArg List.length h
      have := (escB_len c).1
      simp [escL_nil] at *
      omega
    | cons d t1 =>
      rw [escL_cons] at h
      have e := escB_pre h
      subst e
      obtain ⟨t2, e2, e3⟩ := ih t1 r (List.append_cancel_left h)
      exact ⟨t2, by rw [e2]; rfl, e3⟩
theorem escL_eq_nil {t : List UInt8} (h : escL t = []) : t = [] := by
  cases t with
  | nil => rfl
  | cons c t => rw [escL_cons] at h; have h1 := (escB_len c).1; have h2 := congrArg List.length h; rw [List.length_append, List.length_nil] at h2; omega
theorem escL_inj {t t' : List UInt8} (h : escL t' = escL t) : t' = t := by
  obtain ⟨t2, e, e2⟩ := escL_pre t t' [] (by rw [h]; simp)
  rw [e, escL_eq_nil e2, List.append_nil]
theorem escL_len (t : List UInt8) : t.length ≤ (escL t).length ∧ (escL t).length ≤ 6 * t.length := by
  induction t with
  | nil => simp [escL_nil]
  | cons c t ih => rw [escL_cons]; have := escB_len c; simp; omega
theorem escL_head {t : List UInt8} (h : t ≠ []) : ∃ (c : UInt8) (t1 : List UInt8), t = c :: t1 ∧ escL t = escB c ++ escL t1 := by
  cases t with
  | nil => exact absurd rfl h
  | cons c t => exact ⟨c, t, rfl, escL_cons c t⟩
/-- what a text begins with: a byte and how many bytes write it, 0 and 0 for none -/
def firstE (l : List UInt8) : UInt8 × Nat :=
  if nmL (l.headD 0) = [] then (l.headD 0, 1) else if l.take 5 = nmL 38 then (38, 5) else if l.take 4 = nmL 60 then (60, 4) else if l.take 4 = nmL 62 then (62, 4) else if l.take 6 = nmL 34 then (34, 6) else (0, 0)
theorem firstE_or (l : List UInt8) (h : l ≠ []) : (1 ≤ (firstE l).2 ∧ (firstE l).2 ≤ 6 ∧ (firstE l).2 ≤ l.length ∧ l.take (firstE l).2 = escB (firstE l).1) ∨ (firstE l = (0, 0) ∧ ∀ t, escL t ≠ l) := by
  have hl : 0 < l.length := List.length_pos_iff.2 h
  have key : ∀ (n : Nat) (c : UInt8), l.take n = nmL c → n = (nmL c).length → n ≤ l.length := by
    intro n c e1 e2
    have := congrArg List.length e1
    simp at this; omega
  unfold firstE
  by_cases a : nmL (l.headD 0) = []
  · rw [if_pos a]
    refine .inl ⟨by simp, by simp, hl, ?_⟩
    rw [escB_plain a]
    cases l with
    | nil => exact absurd rfl h
    | cons c l => rfl
  · rw [if_neg a]
    by_cases b : l.take 5 = nmL 38
    · rw [if_pos b]; exact .inl ⟨by simp, by simp, key 5 38 b rfl, b.trans rfl⟩
    · rw [if_neg b]
      by_cases c : l.take 4 = nmL 60
      · rw [if_pos c]; exact .inl ⟨by simp, by simp, key 4 60 c rfl, c.trans rfl⟩
      · rw [if_neg c]
        by_cases d : l.take 4 = nmL 62
        · rw [if_pos d]; exact .inl ⟨by simp, by simp, key 4 62 d rfl, d.trans rfl⟩
        · rw [if_neg d]
          by_cases e : l.take 6 = nmL 34
          · rw [if_pos e]; exact .inl ⟨by simp, by simp, key 6 34 e rfl, e.trans rfl⟩
          · rw [if_neg e]
            refine .inr ⟨rfl, ?_⟩
            intro t ht
            have ht0 : t ≠ [] := by rintro rfl; exact h ht.symm
            obtain ⟨x, t1, rfl, hx⟩ := escL_head ht0
            rw [ht] at hx
            rcases nm_cases x with ⟨rfl, hn⟩ | ⟨rfl, hn⟩ | ⟨rfl, hn⟩ | ⟨rfl, hn⟩ | ⟨x1, x2, x3, x4, hn⟩
            · exact b (by rw [hx]; rfl)
            · exact c (by rw [hx]; rfl)
            · exact d (by rw [hx]; rfl)
            · exact e (by rw [hx]; rfl)
            · exact a (by rw [hx, escB_plain hn]; exact hn)
/-- the text that is written so -/
def decF : Nat → List UInt8 → Option (List UInt8)
  | 0, l => if l = [] then some [] else none
  | f + 1, l => if l = [] then some [] else if (firstE l).2 = 0 then none else (decF f (l.drop (firstE l).2)).map ((firstE l).1 :: ·)
theorem dec_nil_iff (t : List UInt8) : (some [] = some t) ↔ escL t = [] := by
  constructor
  · intro h; cases h; rfl
  · intro h; rw [escL_eq_nil h]
theorem decF_iff : ∀ (f : Nat) (l : List UInt8), l.length ≤ f → ∀ t, decF f l = some t ↔ escL t = l := by
  intro f
  induction f with
  | zero =>
    intro l h t
    have : l = [] := List.length_eq_zero_iff.1 (by omega)
    subst this
    exact dec_nil_iff t
  | succ f ih =>
    intro l h t
    by_cases e : l = []
    · subst e; simp only [decF, if_true]; exact dec_nil_iff t
    · simp only [decF, e, if_false]
      rcases firstE_or l e with ⟨a, _, b, c⟩ | ⟨a, b⟩
      · rw [if_neg (by omega)]
        have hs : escB (firstE l).1 ++ l.drop (firstE l).2 = l := by rw [← c, List.take_append_drop]
        constructor
        · intro hm
          obtain ⟨t1, h1, h2⟩ := Option.map_eq_some_iff.1 hm
          subst h2
          rw [escL_cons, (ih _ (by simp; omega) t1).1 h1, hs]
        · intro ht
          have h0 : escL t = escL [(firstE l).1] ++ l.drop (firstE l).2 := by
            rw [escL_cons, escL_nil, List.append_nil, hs]; exact ht
          obtain ⟨t2, e2, e3⟩ := escL_pre _ _ _ h0
          rw [(ih _ (by simp; omega) t2).2 e3, e2]; rfl
      · rw [a]; simp only [if_true]
        constructor
        · intro hh; cases hh
        · intro hh; exact absurd hh (b t)
/-- the valid text whose writing a text is, and whether there is one -/
def unT (l : List UInt8) : List UInt8 × Bool := match decF l.length l with
  | some t => if textB t then (t, true) else ([], false)
  | none => ([], false)
theorem unT_yes {l t : List UInt8} (h : textB t = true) (e : escL t = l) : unT l = (t, true) := by
  unfold unT; rw [(decF_iff l.length l (Nat.le_refl _) t).2 e]; simp [h]
theorem unT_no {l : List UInt8} (h : ∀ t, textB t = true → escL t ≠ l) : unT l = ([], false) := by
  unfold unT
  rcases hd : decF l.length l with _ | t
  · rfl
  · have := (decF_iff l.length l (Nat.le_refl _) t).1 hd
    rcases ht : textB t with _ | _
    · simp [ht]
    · exact absurd this (h t ht)
theorem unT_or (l : List UInt8) : (∃ t, textB t = true ∧ escL t = l ∧ unT l = (t, true)) ∨ ((∀ t, textB t = true → escL t ≠ l) ∧ unT l = ([], false)) := by
  by_cases h : ∃ t, textB t = true ∧ escL t = l
  · obtain ⟨t, a, b⟩ := h
    exact .inl ⟨t, a, b, unT_yes a b⟩
  · have : ∀ t, textB t = true → escL t ≠ l := fun t a b => h ⟨t, a, b⟩
    exact .inr ⟨this, unT_no this⟩
theorem textB_len {t : List UInt8} (h : textB t = true) : t.length ≤ 80 := by
  unfold textB at h; simp at h; exact h.1
theorem escT_len (l : List UInt8) : (escT l).length ≤ 480 := by
  unfold escT
  rcases h : textB l with _ | _
  · simp
  · simp only [if_true]; have := textB_len h; have := (escL_len l).2; omega
theorem escT_in {l : List UInt8} (h : textB l = true) : escT l = escL l := by simp [escT, h]
theorem escT_out {l : List UInt8} (h : textB l = false) : escT l = [] := by simp [escT, h]
theorem unT_long {l : List UInt8} (h : 480 < l.length) : unT l = ([], false) :=
  unT_no fun t ht e => by have := textB_len ht; have := (escL_len t).2; rw [e] at this; omega
/-- no angle bracket is left -/
theorem escB_no (c x : UInt8) (h : x ∈ escB c) : x ≠ 60 ∧ x ≠ 62 := by
  rcases nm_cases c with ⟨rfl, hc⟩ | ⟨rfl, hc⟩ | ⟨rfl, hc⟩ | ⟨rfl, hc⟩ | ⟨c1, c2, c3, c4, hc⟩
  all_goals (simp [escB, hc] at h)
  · rcases h with rfl | rfl | rfl | rfl | rfl <;> decide
  · rcases h with rfl | rfl | rfl | rfl <;> decide
  · rcases h with rfl | rfl | rfl | rfl <;> decide
  · rcases h with rfl | rfl | rfl | rfl | rfl | rfl <;> decide
  · subst h; exact ⟨c2, c3⟩
theorem escL_no (l : List UInt8) (x : UInt8) (h : x ∈ escL l) : x ≠ 60 ∧ x ≠ 62 := by
  unfold escL at h
  obtain ⟨c, _, hc⟩ := List.mem_flatMap.1 h
  exact escB_no c x hc
/-- a writing with one ampersand more is none -/
theorem unT_amp (t : List UInt8) : unT (escL t ++ [38]) = ([], false) := unT_no fun t' _ e => by
  obtain ⟨t2, _, e2⟩ := escL_pre t t' [38] e
  have h0 : t2 ≠ [] := by rintro rfl; simp [escL_nil] at e2
  obtain ⟨x, t1, _, hx⟩ := escL_head h0
  rw [e2] at hx
  have hl := congrArg List.length hx
  rcases nm_cases x with ⟨rfl, hc⟩ | ⟨rfl, hc⟩ | ⟨rfl, hc⟩ | ⟨rfl, hc⟩ | ⟨c1, c2, c3, c4, hc⟩
  all_goals (simp [escB, hc] at hx hl)
  exact c1 hx.1.symm
theorem ext1 (s : ByteArray) (k : Nat) (h : k < s.size) : s.extract k (k + 1) = bs [s[k]] := by
  apply ByteArray.ext; apply Array.toList_inj.1
  have : (s.extract k (k + 1)).data.toList = (s.data.toList.take (k + 1)).drop k := by
    simp [List.extract_eq_take_drop, List.drop_take]
  rw [this, btake s k h]; 
  have hl : (s.data.toList.take k).length = k := by rw [List.length_take, blen]; omega
  rw [List.drop_left' hl]; rfl
theorem esc_next {s : ByteArray} {k : Nat} (h : k < s.size) : escL (s.data.toList.take (k + 1)) = escL (s.data.toList.take k) ++ escB s[k] := by rw [btake s k h, escL_snoc]
theorem esc_short {s : ByteArray} (k : Nat) (h : s.size ≤ 80) : (escL (s.data.toList.take k)).length ≤ 480 := by
  have h1 := (escL_len (s.data.toList.take k)).2
  have h2 : (s.data.toList.take k).length ≤ 80 := by rw [List.length_take, blen]; omega
  omega
theorem text_80 {s : ByteArray} (h : textB s.data.toList = true) : s.size ≤ 80 := by rw [← blen]; exact textB_len h
theorem pl_len80 {s : ByteArray} (k : Nat) (h : s.size ≤ 80) : (plF (s.data.toList.take k)).2.length ≤ 80 := by
  have h1 := plF_len (s.data.toList.take k)
  have h2 : (s.data.toList.take k).length ≤ 80 := by rw [List.length_take, blen]; omega
  omega
theorem byte_ne {c : UInt8} {d : Nat} (hd : d < 256) (h : c ≠ UInt8.ofNat d) : ((c.toNat : Int) == (d : Int)) = false := by
  rw [beq_eq_false_iff_ne]; intro e; apply h; apply UInt8.toNat_inj.1
  rw [UInt8.toNat_ofNat']; omega
/-- what is known of a reading: whoever is written so begins with l -/
def InvU (s l : List UInt8) (k : Nat) : Prop := ∀ t, textB t = true → escL t = s → ∃ t2, t = l ++ t2 ∧ escL l = s.take k
theorem invU_zero (s : List UInt8) : InvU s [] 0 := fun t _ _ => ⟨t, rfl, by simp [escL_nil]⟩
theorem drop_ne {s : List UInt8} {k : Nat} (hk : k < s.length) : s.drop k ≠ [] := by
  intro h; have := congrArg List.length h; simp at this; omega
theorem invU_step {s l : List UInt8} {k n : Nat} {c : UInt8} (h : InvU s l k) (hk : k < s.length) (hstep : firstE (s.drop k) = (c, n) ∨ firstE (s.drop k) = (0, 0)) : InvU s (l ++ [c]) (k + n) := by
  intro t ht he
  obtain ⟨t2, e, e2⟩ := h t ht he
  have e3 : escL t2 = s.drop k := by
    have h1 : escL l ++ escL t2 = s.take k ++ s.drop k := by rw [← escL_append, ← e, he, List.take_append_drop]
    rw [e2] at h1; exact List.append_cancel_left h1
  rcases firstE_or (s.drop k) (drop_ne hk) with ⟨a1, a2, a3, a4⟩ | ⟨b1, b2⟩
  · rcases hstep with hs | hs
    · rw [hs] at a1 a2 a3 a4
      obtain ⟨x, t3, ex, ex2⟩ := escL_head (t := t2) (by rintro rfl; exact drop_ne hk e3.symm)
      have hx : x = c := by
        refine escB_pre (a := escL t3) (b := (s.drop k).drop n) ?_
        rw [← ex2, e3, ← a4, List.take_append_drop]
      subst hx
      refine ⟨t3, by rw [e, ex]; simp, ?_⟩
      rw [escL_snoc, e2, ← a4]
      rw [List.take_add]
    · rw [hs] at a1; omega
  · exact absurd e3 (b2 t2)
theorem headD_drop (s : List UInt8) (k : Nat) (hk : k < s.length) : ∃ r, s.drop k = s[k] :: r := ⟨s.drop (k + 1), List.drop_eq_getElem_cons hk⟩
/-- a byte that is no ampersand -/
theorem step_plain {s : List UInt8} {k : Nat} (hk : k < s.length) (h : s[k] ≠ 38) : firstE (s.drop k) = (s[k], 1) ∨ firstE (s.drop k) = (0, 0) := by
  rcases firstE_or (s.drop k) (drop_ne hk) with ⟨a1, a2, a3, a4⟩ | ⟨b1, b2⟩
  · refine .inl ?_
    obtain ⟨r, hr⟩ := headD_drop s k hk
    generalize firstE (s.drop k) = p at a1 a2 a3 a4 ⊢
    obtain ⟨c, n⟩ := p
    simp only at a1 a2 a3 a4
    have hl := congrArg List.length a4
    rw [List.length_take, Nat.min_eq_left a3] at hl
    rw [hr] at a4
    obtain ⟨m, rfl⟩ : ∃ m, n = m + 1 := ⟨n - 1, by omega⟩
    rw [List.take_succ_cons] at a4
    rcases nm_cases c with ⟨rfl, hc⟩ | ⟨rfl, hc⟩ | ⟨rfl, hc⟩ | ⟨rfl, hc⟩ | ⟨c1, c2, c3, c4, hc⟩
    all_goals (simp [escB, hc] at a4 hl)
    · exact absurd a4.1 h
    · exact absurd a4.1 h
    · exact absurd a4.1 h
    · exact absurd a4.1 h
    · rw [a4.1, hl]
  · exact .inr b1
/-- the name of c stands at k -/
def hitU (s : List UInt8) (k : Nat) (c : UInt8) : Prop := nmL c ≠ [] ∧ (s.drop k).take (nmL c).length = nmL c
theorem hit_app {s : List UInt8} {k : Nat} {c : UInt8} (h : hitU s k c) : nmL c ++ (s.drop k).drop (nmL c).length = s.drop k := by
  have := List.take_append_drop (nmL c).length (s.drop k)
  rw [h.2] at this; exact this
theorem step_hit {s : List UInt8} {k : Nat} {c : UInt8} (hk : k < s.length) (h : hitU s k c) : firstE (s.drop k) = (c, (nmL c).length) ∨ firstE (s.drop k) = (0, 0) := by
  rcases firstE_or (s.drop k) (drop_ne hk) with ⟨a1, a2, a3, a4⟩ | ⟨b1, b2⟩
  · refine .inl ?_
    generalize firstE (s.drop k) = p at a1 a2 a3 a4 ⊢
    obtain ⟨d, n⟩ := p
    simp only at a1 a2 a3 a4
    have e : c = d := by
      refine escB_pre (a := (s.drop k).drop (nmL c).length) (b := (s.drop k).drop n) ?_
      rw [← a4, List.take_append_drop, escB_named h.1]; exact hit_app h
    subst e
    have hl := congrArg List.length a4
    rw [List.length_take, Nat.min_eq_left a3, escB_named h.1] at hl
    rw [hl]
  · exact .inr b1
theorem hit_one {s : List UInt8} {k : Nat} {c d : UInt8} (h : hitU s k c) (h' : hitU s k d) : c = d := by
  refine escB_pre (a := (s.drop k).drop (nmL c).length) (b := (s.drop k).drop (nmL d).length) ?_
  rw [escB_named h.1, escB_named h'.1]
  rw [hit_app h, hit_app h']
theorem step_none {s : List UInt8} {k : Nat} (hk : k < s.length) (h : s[k] = 38) (hn : ∀ c, ¬ hitU s k c) : firstE (s.drop k) = (0, 0) := by
  rcases firstE_or (s.drop k) (drop_ne hk) with ⟨a1, a2, a3, a4⟩ | ⟨b1, b2⟩
  · exfalso
    obtain ⟨r, hr⟩ := headD_drop s k hk
    generalize firstE (s.drop k) = p at a1 a2 a3 a4
    obtain ⟨c, n⟩ := p
    simp only at a1 a2 a3 a4
    by_cases hc : nmL c = []
    · have hl := congrArg List.length a4
      rw [List.length_take, Nat.min_eq_left a3] at hl
      rw [escB_plain hc, hr] at a4
      obtain ⟨m, rfl⟩ : ∃ m, n = m + 1 := ⟨n - 1, by omega⟩
      rw [List.take_succ_cons, h] at a4
      have : c = 38 := by simpa using (List.cons.inj a4).1.symm
      subst this; simp [nmL] at hc
    · refine hn c ⟨hc, ?_⟩
      have hl := congrArg List.length a4
      rw [List.length_take, Nat.min_eq_left a3, escB_named hc] at hl
      rw [← hl, a4, escB_named hc]
  · exact b1
theorem hit_or (s : List UInt8) (k : Nat) : (∃ c, hitU s k c) ∨ ∀ c, ¬ hitU s k c := by
  by_cases h : ∃ c, hitU s k c
  · exact .inl h
  · exact .inr fun c hc => h ⟨c, hc⟩
/-- the byte whose name stands there is one of four -/
theorem hit_four {s : List UInt8} {k : Nat} {c : UInt8} (h : hitU s k c) : 34 ≤ c.toNat ∧ c.toNat ≤ 62 := by
  rcases nm_cases c with ⟨rfl, hc⟩ | ⟨rfl, hc⟩ | ⟨rfl, hc⟩ | ⟨rfl, hc⟩ | ⟨c1, c2, c3, c4, hc⟩
  · decide
  · decide
  · decide
  · decide
  · exact absurd hc h.1
theorem hit_len {s : List UInt8} {k : Nat} {c : UInt8} (hk : k < s.length) (h : hitU s k c) : k + (nmL c).length ≤ s.length ∧ 1 ≤ (nmL c).length ∧ (nmL c).length ≤ 6 := by
  have hl := congrArg List.length h.2
  rw [List.length_take, List.length_drop] at hl
  have h1 : (nmL c).length ≠ 0 := fun e => h.1 (List.length_eq_zero_iff.1 e)
  have := nm_len c
  omega
theorem un_yes {s l : List UInt8} (a : textB l = true) (b : escL l = s) : unT s = (l, true) := unT_yes a b
theorem un_long {s l : List UInt8} {k : Nat} (h : InvU s l k) (hl : 80 < l.length) : unT s = ([], false) :=
  unT_no fun t ht e => by
    obtain ⟨t2, e1, _⟩ := h t ht e
    have := textB_len ht; rw [e1, List.length_append] at this; omega
theorem un_off {s l : List UInt8} {k : Nat} (h : InvU s l k) (hk : s.length ≤ k) (hn : ¬ (textB l = true ∧ escL l = s)) : unT s = ([], false) :=
  unT_no fun t ht e => by
    obtain ⟨t2, e1, e2⟩ := h t ht e
    rw [List.take_of_length_le hk] at e2
    have : t = l := escL_inj (by rw [e, e2])
    subst this
    exact hn ⟨ht, e2⟩
/-- the straight reading -/
theorem dec_step {s l : List UInt8} {k n : Nat} {c : UInt8} (h : escL l = s.take k) (h' : (s.drop k).take n = escB c) : escL (l ++ [c]) = s.take (k + n) := by
  rw [escL_snoc, h, ← h', List.take_add]
theorem dec_stop {s l : List UInt8} {k : Nat} (h : escL l = s.take k) (hn : ∀ t, escL t ≠ s.drop k) : unT s = ([], false) :=
  unT_no fun t _ e => by
    have : escL t = escL l ++ s.drop k := by rw [e, h, List.take_append_drop]
    obtain ⟨t2, _, e2⟩ := escL_pre l t _ this
    exact hn t2 e2
theorem dec_off {s l : List UInt8} (h : escL l = s) (hn : textB l = false) : unT s = ([], false) :=
  unT_no fun t ht e => by
    have : t = l := escL_inj (by rw [e, h])
    subst this; rw [hn] at ht; cases ht
/-- elements: names with texts -/
abbrev EL := List (ByteArray × ByteArray)
def okE (e : ByteArray × ByteArray) : Bool := wordB e.1.data.toList && textB e.2.data.toList
def elB (L : EL) : Bool := decide (L.length ≤ 8) && L.all okE
def elT1 (e : ByteArray × ByteArray) : List UInt8 := 60 :: (e.1.data.toList ++ 62 :: (escT e.2.data.toList ++ 60 :: 47 :: (e.1.data.toList ++ [62])))
def elL (L : EL) : List UInt8 := L.flatMap elT1
def elT (L : EL) : List UInt8 := if elB L then elL L else []
/-- the first text with a name -/
def elX1 : EL → ByteArray → ByteArray × Bool
  | [], _ => (bs [], false)
  | e :: L, n => if e.1 = n then (e.2, true) else elX1 L n
def elX (L : EL) (n : ByteArray) : ByteArray × Bool := if elB L then elX1 L n else (bs [], false)
theorem elB_len {L : EL} (h : elB L = true) : L.length ≤ 8 := by unfold elB at h; simp at h; exact h.1
theorem elB_mem {L : EL} (h : elB L = true) : ∀ e ∈ L, okE e = true := by unfold elB at h; simp at h; exact fun e he => h.2 _ _ he
theorem elB_of {L : EL} (h : L.length ≤ 8) (h' : ∀ e ∈ L, okE e = true) : elB L = true := by unfold elB; simp [h]; exact fun a b m => h' (a, b) m
theorem elB_bad {L : EL} {k : Nat} (h : k < L.length) (b : okE L[k] = false) : elB L = false := by
  unfold elB
  have : L.all okE = false := by rw [List.all_eq_false]; exact ⟨_, List.getElem_mem h, by simp [b]⟩
  rw [this]; simp
theorem take_all {α : Type} {p : α → Bool} {L : List α} {k : Nat} (h : k < L.length) (a : (L.take k).all p = true) (b : p L[k] = true) : (L.take (k + 1)).all p = true := by
  rw [List.take_succ_eq_append_getElem h, List.all_append, a]; simp [b]
theorem elB_end {L : EL} {k : Nat} (h : L.length ≤ k) (a : (L.take k).all okE = true) : decide ((L.length : Int) ≤ 8) = elB L := by
  rw [List.take_of_length_le h] at a
  unfold elB; rw [a]; simp [decide_eq_decide]; omega
theorem okE_word {e : ByteArray × ByteArray} (h : wordB e.1.data.toList = false) : okE e = false := by simp [okE, h]
theorem okE_text {e : ByteArray × ByteArray} (h : textB e.2.data.toList = false) : okE e = false := by simp [okE, h]
theorem okE_both {e : ByteArray × ByteArray} (h : wordB e.1.data.toList = true) (h' : textB e.2.data.toList = true) : okE e = true := by simp [okE, h, h']
theorem okE_of {e : ByteArray × ByteArray} (h : okE e = true) : wordB e.1.data.toList = true ∧ textB e.2.data.toList = true := by simpa [okE] using h
theorem elT_in {L : EL} (h : elB L = true) : elT L = elL L := by simp [elT, h]
theorem elT_out {L : EL} (h : elB L = false) : elT L = [] := by simp [elT, h]
theorem elL_nil : elL [] = [] := rfl
theorem elL_cons (e : ByteArray × ByteArray) (L : EL) : elL (e :: L) = elT1 e ++ elL L := by simp [elL]
theorem elL_append (a b : EL) : elL (a ++ b) = elL a ++ elL b := by simp [elL]
theorem elL_snoc (a : EL) (e : ByteArray × ByteArray) : elL (a ++ [e]) = elL a ++ elT1 e := by simp [elL]
theorem elL_take {L : EL} {k : Nat} (h : k < L.length) : elL (L.take (k + 1)) = elL (L.take k) ++ elT1 L[k] := by rw [List.take_succ_eq_append_getElem h, elL_snoc]
theorem word_len {l : List UInt8} (h : wordB l = true) : 1 ≤ l.length ∧ l.length ≤ 8 := by unfold wordB at h; simp at h; omega
theorem elT1_len {e : ByteArray × ByteArray} (h : okE e = true) : (elT1 e).length ≤ 501 := by
  have := (word_len (okE_of h).1).2
  have := escT_len e.2.data.toList
  simp [elT1] at *; omega
theorem elL_len : ∀ (L : EL), (∀ e ∈ L, okE e = true) → (elL L).length ≤ 501 * L.length := by
  intro L
  induction L with
  | nil => intro _; simp [elL_nil]
  | cons e L ih =>
    intro h
    have h1 := ih (fun x hx => h x (by simp [hx]))
    have h2 := elT1_len (h e (by simp))
    rw [elL_cons, List.length_append, List.length_cons]; omega
theorem elT_len (L : EL) : (elT L).length ≤ 4008 := by
  rcases h : elB L with _ | _
  · rw [elT_out h]; simp
  · rw [elT_in h]; have := elL_len L (elB_mem h); have := elB_len h; omega
theorem elX1_at {L : EL} {n : ByteArray} {k : Nat} (hk : k < L.length) (h : ∀ i (hi : i < L.length), i < k → L[i].1 ≠ n) (e : L[k].1 = n) : elX1 L n = (L[k].2, true) := by
  induction L generalizing k with
  | nil => simp at hk
  | cons a L ih =>
    cases k with
    | zero => simp only [List.getElem_cons_zero] at e ⊢; simp [elX1, e]
    | succ k =>
      have h0 : a.1 ≠ n := h 0 (by simp) (by omega)
      simp only [elX1, h0, if_false]
      have := ih (k := k) (by simpa using hk) (fun i hi hik => by have := h (i + 1) (by simpa using hi) (by omega); simpa using this) (by simpa using e)
      rw [this]; rfl
theorem elX1_none {L : EL} {n : ByteArray} (h : ∀ i (hi : i < L.length), L[i].1 ≠ n) : elX1 L n = (bs [], false) := by
  induction L with
  | nil => rfl
  | cons a L ih =>
    have h0 : a.1 ≠ n := h 0 (by simp)
    simp only [elX1, h0, if_false]
    exact ih (fun i hi => by have := h (i + 1) (by simpa using hi); simpa using this)
theorem elX_in {L : EL} (n : ByteArray) (h : elB L = true) : elX L n = elX1 L n := by simp [elX, h]
theorem elX_out {L : EL} (n : ByteArray) (h : elB L = false) : elX L n = (bs [], false) := by simp [elX, h]
/-- what a text stands for, in full: the elements and whether there are any -/
def RdE (s : List UInt8) (L : EL) (ok : Bool) : Prop := (ok = true ∧ elB L = true ∧ elL L = s) ∨ (ok = false ∧ L = [] ∧ ∀ L', elB L' = true → elL L' ≠ s)
def goodE (e : ByteArray × ByteArray) : Prop := (62 : UInt8) ∉ e.1.data.toList ∧ textB e.2.data.toList = true
theorem wc_plain {c : UInt8} (h : wcB c = true) : c ≠ 60 ∧ c ≠ 62 := by
  constructor
  · rintro rfl; revert h; decide
  · rintro rfl; revert h; decide
theorem word_plain {l : List UInt8} (h : wordB l = true) : (60 : UInt8) ∉ l ∧ (62 : UInt8) ∉ l := by
  unfold wordB at h
  simp only [Bool.and_eq_true, List.all_eq_true] at h
  exact ⟨fun m => (wc_plain (h.2 _ m)).1 rfl, fun m => (wc_plain (h.2 _ m)).2 rfl⟩
theorem good_of {e : ByteArray × ByteArray} (h : okE e = true) : goodE e := ⟨(word_plain (okE_of h).1).2, (okE_of h).2⟩
theorem esc_no60 (l : List UInt8) : (60 : UInt8) ∉ escT l := by
  intro m
  unfold escT at m
  rcases h : textB l with _ | _
  · rw [h] at m; simp at m
  · rw [h] at m; exact (escL_no l 60 m).1 rfl
theorem cut_eq {c : UInt8} : ∀ {a a' r r' : List UInt8}, c ∉ a → c ∉ a' → a ++ c :: r = a' ++ c :: r' → a = a' ∧ r = r' := by
  intro a
  induction a with
  | nil =>
    intro a' r r' _ h' e
    cases a' with
    | nil => exact ⟨rfl, by simpa using e⟩
    | cons x a' => simp at e; exact absurd (by simp [e.1]) h'
  | cons y a ih =>
    intro a' r r' h h' e
    cases a' with
    | nil => simp at e; exact absurd (by simp [e.1]) h
    | cons x a' =>
      simp at e
      obtain ⟨h1, h2⟩ := ih (fun m => h (by simp [m])) (fun m => h' (by simp [m])) e.2
      exact ⟨by rw [e.1, h1], h2⟩
theorem pair_ext {e e' : ByteArray × ByteArray} (h : e.1.data.toList = e'.1.data.toList) (h' : e.2.data.toList = e'.2.data.toList) : e = e' := by
  obtain ⟨⟨⟨a⟩⟩, ⟨⟨b⟩⟩⟩ := e
  obtain ⟨⟨⟨a'⟩⟩, ⟨⟨b'⟩⟩⟩ := e'
  simp only at h h'
  rw [h, h']
theorem elT1_pre {e e' : ByteArray × ByteArray} (h : goodE e) (h' : goodE e') {a b : List UInt8} (q : elT1 e ++ a = elT1 e' ++ b) : e = e' ∧ a = b := by
  unfold elT1 at q
  simp only [List.cons_append, List.append_assoc, List.cons.injEq, true_and] at q
  obtain ⟨e1, q⟩ := cut_eq h.1 h'.1 q
  obtain ⟨e2, q⟩ := cut_eq (esc_no60 _) (esc_no60 _) q
  rw [escT_in h.2, escT_in h'.2] at e2
  have e3 := escL_inj e2
  refine ⟨pair_ext e1 e3, ?_⟩
  rw [e1] at q
  simp only [List.cons.injEq, true_and, List.append_cancel_left_eq, List.nil_append] at q
  exact q
theorem elT1_ne (e : ByteArray × ByteArray) : elT1 e ≠ [] := by simp [elT1]
theorem elL_eq_nil {L : EL} (h : elL L = []) : L = [] := by
  cases L with
  | nil => rfl
  | cons e L => rw [elL_cons] at h; exact absurd (List.append_eq_nil_iff.1 h).1 (elT1_ne e)
theorem elL_pre : ∀ (L L' : EL) (r : List UInt8), (∀ e ∈ L, goodE e) → (∀ e ∈ L', goodE e) → elL L' = elL L ++ r → ∃ L2, L' = L ++ L2 ∧ elL L2 = r := by
  intro L
  induction L with
  | nil => intro L' r _ _ h; exact ⟨L', rfl, by simpa [elL_nil] using h⟩
  | cons c L ih =>
    intro L' r h h' q
    rw [elL_cons, List.append_assoc] at q
    cases L' with
    | nil =>
      exact absurd (List.append_eq_nil_iff.1 (q.symm.trans elL_nil)).1 (elT1_ne c)
    | cons d L1 =>
      rw [elL_cons] at q
      obtain ⟨e1, e2⟩ := elT1_pre (h' d (by simp)) (h c (by simp)) q
      subst e1
      obtain ⟨L2, e3, e4⟩ := ih L1 r (fun e m => h e (by simp [m])) (fun e m => h' e (by simp [m])) e2
      exact ⟨L2, by rw [e3]; rfl, e4⟩
theorem elB_good {L : EL} (h : elB L = true) : ∀ e ∈ L, goodE e := fun e m => good_of (elB_mem h e m)
theorem rdE_one {s : List UInt8} {L L' : EL} {ok ok' : Bool} (h : RdE s L ok) (h' : RdE s L' ok') : L = L' ∧ ok = ok' := by
  rcases h with ⟨rfl, a, b⟩ | ⟨rfl, rfl, b⟩
  · rcases h' with ⟨rfl, c, d⟩ | ⟨rfl, rfl, d⟩
    · obtain ⟨L2, e1, e2⟩ := elL_pre L L' [] (elB_good a) (elB_good c) (by rw [b, d]; simp)
      rw [elL_eq_nil e2] at e1
      exact ⟨by rw [e1]; simp, rfl⟩
    · exact absurd b (d L a)
  · rcases h' with ⟨rfl, c, d⟩ | ⟨rfl, rfl, d⟩
    · exact absurd d (b L' c)
    · exact ⟨rfl, rfl⟩
theorem elx_at {s : ByteArray} {p k : Nat} {c : UInt8} {a b : List UInt8} (h : s.data.toList.drop p = a ++ c :: b) (ha : c ∉ a) (hp : p ≤ k) (hk : k ≤ s.size)
    (F : ∀ i (hi : i < s.size), p ≤ i → i < k → s[i] ≠ c) (E : k = s.size ∨ ∃ h : k < s.size, s[k] = c) : k = p + a.length := by
  have hl := congrArg List.length h
  rw [List.length_drop, blen, List.length_append, List.length_cons] at hl
  have hget : ∀ j (hj : p + j < s.size), s[p + j] = (a ++ c :: b)[j]'(by rw [List.length_append, List.length_cons]; omega) := by
    intro j hj
    have h1 : (s.data.toList.drop p)[j]'(by rw [List.length_drop, blen]; omega) = (a ++ c :: b)[j]'(by rw [List.length_append, List.length_cons]; omega) := by simp only [h]
    rw [← h1, List.getElem_drop]; rfl
  rcases Nat.lt_trichotomy k (p + a.length) with hlt | heq | hgt
  · exfalso
    rcases E with E | ⟨hk2, E⟩
    · omega
    · obtain ⟨j, rfl⟩ : ∃ j, k = p + j := ⟨k - p, by omega⟩
      rw [hget j hk2, List.getElem_append_left (by omega)] at E
      exact ha (by rw [← E]; exact List.getElem_mem _)
  · exact heq
  · exfalso
    have := hget a.length (by omega)
    rw [List.getElem_append_right (by omega)] at this
    simp at this
    exact F (p + a.length) (by omega) (by omega) hgt this
theorem elx_list (s : ByteArray) (a b : Nat) : (s.extract a b).data.toList = (s.data.toList.drop a).take (b - a) := by
  simp [List.extract_eq_take_drop]
theorem drop_next {l a b : List UInt8} {p : Nat} (h : l.drop p = a ++ b) : l.drop (p + a.length) = b := by
  rw [← List.drop_drop, h, List.drop_left]
theorem take_glue (l : List UInt8) {a b : Nat} (h : a ≤ b) : l.take b = l.take a ++ (l.drop a).take (b - a) := by
  obtain ⟨n, rfl⟩ : ∃ n, b = a + n := ⟨b - a, by omega⟩
  rw [List.take_add, Nat.add_sub_cancel_left]
/-- what three scans found -/
structure Scan (s : ByteArray) (k nm en la : Nat) : Prop where
  n1 : k + 1 ≤ nm
  n2 : nm ≤ s.size
  n3 : ∀ i (hi : i < s.size), k + 1 ≤ i → i < nm → s[i] ≠ 62
  n4 : nm = s.size ∨ ∃ h : nm < s.size, s[nm] = 62
  e1 : nm ≤ en
  e2 : en ≤ s.size
  e3 : ∀ i (hi : i < s.size), nm ≤ i → i < en → s[i] ≠ 60
  e4 : en = s.size ∨ ∃ h : en < s.size, s[en] = 60
  l1 : en ≤ la
  l2 : la ≤ s.size
  l3 : ∀ i (hi : i < s.size), en ≤ i → i < la → s[i] ≠ 62
  l4 : la = s.size ∨ ∃ h : la < s.size, s[la] = 62
/-- whoever is written so goes on as the scans say -/
theorem rd_must {s : ByteArray} {k nm en la : Nat} {out : EL} (hlt : k < s.size) (sc : Scan s k nm en la) (hout : elL out = s.data.toList.take k) (hg : ∀ e ∈ out, goodE e) {L' : EL} (hv : elB L' = true) (he : elL L' = s.data.toList) :
    la < s.size ∧ s[k] = 60 ∧ out.length < 8 ∧ (∃ t, unT (s.extract (nm + 1) en).data.toList = (t, true)) ∧ s.extract en (la + 1) = ⟨#[60, 47]⟩ ++ s.extract (k + 1) nm ++ ⟨#[62]⟩ := by
  obtain ⟨L2, e1, e2⟩ := elL_pre out L' (s.data.toList.drop k) hg (elB_good hv) (by rw [hout, he, List.take_append_drop])
  have hdl : (s.data.toList.drop k).length = s.size - k := by rw [List.length_drop, blen]
  cases L2 with
  | nil => rw [elL_nil] at e2; rw [← e2] at hdl; simp at hdl; omega
  | cons e L3 =>
    have hge : goodE e := elB_good hv e (by rw [e1]; simp)
    have hok : okE e = true := elB_mem hv e (by rw [e1]; simp)
    rw [elL_cons] at e2
    unfold elT1 at e2
    simp only [List.cons_append, List.append_assoc, List.nil_append] at e2
    have d0 : s.data.toList.drop k = [60] ++ (e.1.data.toList ++ 62 :: (escT e.2.data.toList ++ 60 :: 47 :: (e.1.data.toList ++ 62 :: elL L3))) := e2.symm
    have hk60 : s[k] = 60 := by
      have h1 := List.drop_eq_getElem_cons (l := s.data.toList) (i := k) (by rw [blen]; exact hlt)
      rw [d0] at h1
      exact (List.cons.inj h1).1.symm
    have d1 := drop_next d0
    rw [show k + ([60] : List UInt8).length = k + 1 from rfl] at d1
    have w62 := (word_plain (okE_of hok).1).2
    have p1 := elx_at d1 w62 sc.n1 sc.n2 sc.n3 sc.n4
    have d2 := drop_next d1
    rw [← p1] at d2
    have n60 : (60 : UInt8) ∉ (62 :: escT e.2.data.toList) := by
      intro m
      rcases List.mem_cons.1 m with m | m
      · exact absurd m (by decide)
      · exact esc_no60 _ m
    have d2' : s.data.toList.drop nm = (62 :: escT e.2.data.toList) ++ 60 :: (47 :: (e.1.data.toList ++ 62 :: elL L3)) := d2
    have p2 := elx_at d2' n60 sc.e1 sc.e2 sc.e3 sc.e4
    have d3 := drop_next d2'
    rw [← p2] at d3
    have n62 : (62 : UInt8) ∉ (60 :: 47 :: e.1.data.toList) := by
      intro m
      rcases List.mem_cons.1 m with m | m
      · exact absurd m (by decide)
      · rcases List.mem_cons.1 m with m | m
        · exact absurd m (by decide)
        · exact w62 m
    have d3' : s.data.toList.drop en = (60 :: 47 :: e.1.data.toList) ++ 62 :: elL L3 := d3
    have p3 := elx_at d3' n62 sc.l1 sc.l2 sc.l3 sc.l4
    have d4 := drop_next d3'
    rw [← p3] at d4
    have hla : la < s.size := by
      have := congrArg List.length d4
      rw [List.length_drop, blen, List.length_cons] at this; omega
    have x1 : (s.extract (k + 1) nm).data.toList = e.1.data.toList := by
      rw [elx_list, d1, p1, Nat.add_sub_cancel_left, List.take_left]
    have d5 : s.data.toList.drop (nm + 1) = escT e.2.data.toList ++ 60 :: (47 :: (e.1.data.toList ++ 62 :: elL L3)) := by
      have := drop_next (l := s.data.toList) (p := nm) (a := [62]) (b := escT e.2.data.toList ++ 60 :: (47 :: (e.1.data.toList ++ 62 :: elL L3))) d2
      exact this
    have x2 : (s.extract (nm + 1) en).data.toList = escL e.2.data.toList := by
      rw [elx_list, d5, p2, List.length_cons]
      have : nm + ((escT e.2.data.toList).length + 1) - (nm + 1) = (escT e.2.data.toList).length := by omega
      rw [this, List.take_left, escT_in hge.2]
    have x3 : (s.extract en (la + 1)).data.toList = 60 :: 47 :: (e.1.data.toList ++ [62]) := by
      have d6 : s.data.toList.drop en = (60 :: 47 :: (e.1.data.toList ++ [62])) ++ elL L3 := by rw [d3']; simp
      rw [elx_list, d6]
      have : la + 1 - en = (60 :: 47 :: (e.1.data.toList ++ [62])).length := by rw [p3]; simp; omega
      rw [this, List.take_left]
    refine ⟨hla, hk60, ?_, ⟨_, un_yes hge.2 x2.symm⟩, ?_⟩
    · have := elB_len hv; rw [e1] at this; simp at this; omega
    · apply ByteArray.ext; apply Array.toList_inj.1
      rw [x3]
      have : (⟨#[60, 47]⟩ ++ s.extract (k + 1) nm ++ ⟨#[62]⟩ : ByteArray).data.toList = 60 :: 47 :: ((s.extract (k + 1) nm).data.toList ++ [62]) := by simp
      rw [this, x1]
/-- what was read is written so -/
theorem rd_step {s : ByteArray} {k nm en la : Nat} {out : EL} {t : List UInt8} (hlt : k < s.size) (sc : Scan s k nm en la) (hout : elL out = s.data.toList.take k) (hg : ∀ e ∈ out, goodE e)
    (hla : la < s.size) (h60 : s[k] = 60) (hen : nm + 1 ≤ en) (hu : unT (s.extract (nm + 1) en).data.toList = (t, true)) (hx : s.extract en (la + 1) = ⟨#[60, 47]⟩ ++ s.extract (k + 1) nm ++ ⟨#[62]⟩) :
    elL (out ++ [(s.extract (k + 1) nm, bs t)]) = s.data.toList.take (la + 1) ∧ ∀ e ∈ out ++ [(s.extract (k + 1) nm, bs t)], goodE e := by
  have s1 := sc.n1
  have s2 := sc.n2
  have s3 := sc.e1
  have s4 := sc.l1
  have s5 := sc.e2
  rcases unT_or (s.extract (nm + 1) en).data.toList with ⟨t', ht, he, hu'⟩ | ⟨_, hu'⟩
  · rw [hu] at hu'
    have : t = t' := by cases hu'; rfl
    subst this
    have hnm : s[nm]'(by omega) = 62 := by
      rcases sc.n4 with q | ⟨_, q⟩
      · omega
      · exact q
    constructor
    · rw [elL_snoc, hout]
      have g1 := take_glue s.data.toList (a := k) (b := k + 1) (by omega)
      have g2 := take_glue s.data.toList (a := k + 1) (b := nm) s1
      have g3 := take_glue s.data.toList (a := nm) (b := nm + 1) (by omega)
      have g4 := take_glue s.data.toList (a := nm + 1) (b := en) hen
      have g5 := take_glue s.data.toList (a := en) (b := la + 1) (by omega)
      have one : ∀ p (hp : p < s.size), (s.data.toList.drop p).take (p + 1 - p) = [s[p]] := by
        intro p hp
        rw [List.drop_eq_getElem_cons (by rw [blen]; exact hp), Nat.add_sub_cancel_left]; rfl
      rw [one k hlt, h60] at g1
      rw [one nm (by omega), hnm] at g3
      rw [← elx_list] at g2 g4 g5
      rw [g5, g4, g3, g2, g1, ← he, hx]
      have : (⟨#[60, 47]⟩ ++ s.extract (k + 1) nm ++ ⟨#[62]⟩ : ByteArray).data.toList = 60 :: 47 :: ((s.extract (k + 1) nm).data.toList ++ [62]) := by simp
      rw [this]
      unfold elT1
      simp only [bs_data]
      rw [escT_in ht]
      simp only [List.append_assoc, List.cons_append, List.nil_append]
    · intro e m
      rcases List.mem_append.1 m with m | m
      · exact hg e m
      · have : e = (s.extract (k + 1) nm, bs t) := by simpa using m
        subst this
        refine ⟨?_, ht⟩
        intro m2
        obtain ⟨j, hj, hj2⟩ := List.getElem_of_mem m2
        have hj3 : j < nm - (k + 1) := by
          have := hj; rw [blen, ByteArray.size_extract] at this; omega
        have : s[k + 1 + j]'(by omega) = 62 := by
          rw [← hj2]
          simp only [elx_list, List.getElem_take, List.getElem_drop]; rfl
        exact sc.n3 (k + 1 + j) (by omega) (by omega) (by omega) this
  · rw [hu] at hu'; cases hu'
theorem rdE_no {s : List UInt8} (h : ∀ L', elB L' = true → elL L' ≠ s) : RdE s [] false := .inr ⟨rfl, rfl, h⟩
theorem rdE_end {s : List UInt8} {out : EL} (h : elL out = s) (hg : ∀ e ∈ out, goodE e) : (elB out = true → RdE s out true) ∧ (elB out = false → RdE s [] false) := by
  refine ⟨fun q => .inl ⟨rfl, q, h⟩, fun q => rdE_no fun L' hv he => ?_⟩
  obtain ⟨L2, e1, e2⟩ := elL_pre out L' [] hg (elB_good hv) (by rw [h, he]; simp)
  rw [elL_eq_nil e2, List.append_nil] at e1
  subst e1; rw [q] at hv; cases hv
def leapB (y : Int) : Bool := decide (1 ≤ y ∧ y ≤ 4000 ∧ y % 4 = 0 ∧ (y % 100 ≠ 0 ∨ y % 400 = 0))
def lpI (y : Int) : Int := if leapB y then 1 else 0
theorem lpI_bd (y : Int) : 0 ≤ lpI y ∧ lpI y ≤ 1 := by unfold lpI; split <;> omega
theorem lpI_t {y : Int} (h : leapB y = true) : lpI y = 1 := by simp [lpI, h]
theorem lpI_f {y : Int} (h : leapB y = false) : lpI y = 0 := by simp [lpI, h]
/-- the days of the twelve months -/
def md12 (y m : Int) : Int := if m = 2 then 28 + lpI y else if m = 4 ∨ m = 6 ∨ m = 9 ∨ m = 11 then 30 else 31
def mdays (y m : Int) : Int := if 1 ≤ y ∧ y ≤ 4000 ∧ 1 ≤ m ∧ m ≤ 12 then md12 y m else -1
theorem mdays_in {y m : Int} (a : 1 ≤ y) (b : y ≤ 4000) (c : 1 ≤ m) (d : m ≤ 12) : mdays y m = md12 y m := by unfold mdays; rw [if_pos ⟨a, b, c, d⟩]
theorem mdays_out {y m : Int} (h : y < 1 ∨ 4000 < y ∨ m < 1 ∨ 12 < m) : mdays y m = -1 := by unfold mdays; rw [if_neg (by omega)]
theorem md12_bd (y m : Int) : 28 ≤ md12 y m ∧ md12 y m ≤ 31 := by have := lpI_bd y; unfold md12; split <;> (try split) <;> omega
theorem mdays_bd (y m : Int) : -1 ≤ mdays y m ∧ mdays y m ≤ 31 := by have := md12_bd y m; unfold mdays; split <;> omega
/-- days before a year, before a month of it -/
def dby (y : Int) : Int := 365 * (y - 1) + (y - 1) / 4 - (y - 1) / 100 + (y - 1) / 400
def cum (m : Int) : Int := if m ≤ 1 then 0 else if m = 2 then 31 else if m = 3 then 59 else if m = 4 then 90 else if m = 5 then 120 else if m = 6 then 151 else if m = 7 then 181 else if m = 8 then 212 else if m = 9 then 243 else if m = 10 then 273 else if m = 11 then 304 else if m = 12 then 334 else 365
def dbm (y m : Int) : Int := cum m + if 3 ≤ m then lpI y else 0
theorem m12 {m : Int} (c : 1 ≤ m) (d : m ≤ 12) : m = 1 ∨ m = 2 ∨ m = 3 ∨ m = 4 ∨ m = 5 ∨ m = 6 ∨ m = 7 ∨ m = 8 ∨ m = 9 ∨ m = 10 ∨ m = 11 ∨ m = 12 := by omega
theorem dbm_one (y : Int) : dbm y 1 = 0 := by simp [dbm, cum]
theorem dbm_succ (y : Int) {m : Int} (c : 1 ≤ m) (d : m ≤ 12) : dbm y (m + 1) = dbm y m + md12 y m := by
  obtain rfl | rfl | rfl | rfl | rfl | rfl | rfl | rfl | rfl | rfl | rfl | rfl := m12 c d
  all_goals (simp [dbm, cum, md12]; try omega)
theorem dbm_bd (y : Int) {m : Int} (c : 1 ≤ m) (d : m ≤ 13) : 0 ≤ dbm y m ∧ dbm y m ≤ 366 := by
  have := lpI_bd y
  obtain rfl | rfl | rfl | rfl | rfl | rfl | rfl | rfl | rfl | rfl | rfl | rfl | rfl : m = 1 ∨ m = 2 ∨ m = 3 ∨ m = 4 ∨ m = 5 ∨ m = 6 ∨ m = 7 ∨ m = 8 ∨ m = 9 ∨ m = 10 ∨ m = 11 ∨ m = 12 ∨ m = 13 := by omega
  all_goals (simp [dbm, cum]; try omega)
theorem dbm_13 (y : Int) : dbm y 13 = 365 + lpI y := by simp [dbm, cum]
theorem leap_iff {y : Int} (a : 1 ≤ y) (b : y ≤ 4000) : lpI y = (y / 4 - (y - 1) / 4) - (y / 100 - (y - 1) / 100) + (y / 400 - (y - 1) / 400) := by
  rcases h : leapB y with _ | _
  · rw [lpI_f h]; simp [leapB, a, b] at h; omega
  · rw [lpI_t h]; simp [leapB, a, b] at h; omega
theorem dby_succ {y : Int} (a : 1 ≤ y) (b : y ≤ 4000) : dby (y + 1) = dby y + 365 + lpI y := by
  have := leap_iff a b; unfold dby
  have e : y + 1 - 1 = y := by omega
  rw [e]; omega
theorem dby_bd {y : Int} (a : 1 ≤ y) (b : y ≤ 4001) : 0 ≤ dby y ∧ dby y ≤ 1460970 := by unfold dby; omega
theorem dby_one : dby 1 = 0 := by decide
theorem dby_last : dby 4001 = 1460970 := by decide
theorem dby_mono {a b : Int} (h0 : 1 ≤ a) (h : a ≤ b) : dby a ≤ dby b := by unfold dby; omega
theorem dby_lt {a b : Int} (h0 : 1 ≤ a) (h : a < b) : dby a < dby b := by unfold dby; omega
def numD (y m d : Int) : Int := dby y + dbm y m + d - 1
/-- a date -/
def isD (y m d : Int) : Bool := decide (1 ≤ y ∧ y ≤ 4000 ∧ 1 ≤ m ∧ m ≤ 12 ∧ 1 ≤ d ∧ d ≤ mdays y m)
structure IsD (y m d : Int) : Prop where
  y1 : 1 ≤ y
  y2 : y ≤ 4000
  m1 : 1 ≤ m
  m2 : m ≤ 12
  d1 : 1 ≤ d
  d2 : d ≤ md12 y m
def dayN (y m d : Int) : Int := if 1 ≤ d ∧ d ≤ mdays y m then numD y m d else -1
theorem isD_of {y m d : Int} (a : 1 ≤ d) (b : d ≤ mdays y m) : IsD y m d := by
  unfold mdays at b
  split at b
  · rename_i h; exact ⟨h.1, h.2.1, h.2.2.1, h.2.2.2, a, b⟩
  · omega
theorem dayN_in {y m d : Int} (h : IsD y m d) : dayN y m d = numD y m d := by
  unfold dayN; rw [mdays_in h.y1 h.y2 h.m1 h.m2, if_pos ⟨h.d1, h.d2⟩]
theorem dayN_no {y m d : Int} (h : d < 1 ∨ mdays y m < d) : dayN y m d = -1 := by unfold dayN; rw [if_neg (by omega)]
theorem IsD.bd {y m d : Int} (h : IsD y m d) : 0 ≤ numD y m d ∧ numD y m d < dby (y + 1) ∧ dby y ≤ numD y m d ∧ numD y m d ≤ 1460969 := by
  have a := dby_bd h.y1 (by have := h.y2; omega)
  have b := dbm_bd y h.m1 (by have := h.m2; omega)
  have c := dbm_succ y h.m1 h.m2
  have d' := dby_succ h.y1 h.y2
  have e := md12_bd y m
  have f : dbm y (m + 1) ≤ 365 + lpI y := by
    rw [← dbm_13]
    have k1 := h.m1; have k2 := h.m2
    have := lpI_bd y
    obtain rfl | rfl | rfl | rfl | rfl | rfl | rfl | rfl | rfl | rfl | rfl | rfl := m12 k1 k2
    all_goals (simp [dbm, cum]; try omega)
  have g := dby_mono (a := y + 1) (b := 4001) (by have := h.y1; omega) (by have := h.y2; omega)
  have l := dby_last
  have h1 := h.d1; have h2 := h.d2
  unfold numD; omega
theorem dbm_add (y m : Int) (j : Nat) (a : 1 ≤ m) (c : m + j ≤ 12) : dbm y m ≤ dbm y (m + j) := by
  induction j with
  | zero => simp
  | succ j ih =>
    have h1 := ih (by omega)
    have h2 := dbm_succ y (m := m + j) (by omega) (by omega)
    have h3 := md12_bd y (m + j)
    have e : m + ((j + 1 : Nat) : Int) = m + j + 1 := by omega
    rw [e, h2]; omega
theorem dbm_mono (y : Int) {m k : Int} (a : 1 ≤ m) (b : m ≤ k) (c : k ≤ 12) : dbm y m ≤ dbm y k := by
  have h := dbm_add y m (k - m).toNat a (by omega)
  have e : m + ((k - m).toNat : Int) = k := by omega
  rwa [e] at h
theorem num_inj {y m d y' m' d' : Int} (h : IsD y m d) (h' : IsD y' m' d') (e : numD y m d = numD y' m' d') : y = y' ∧ m = m' ∧ d = d' := by
  have a := h.bd; have b := h'.bd
  have ey : y = y' := by
    rcases Int.lt_trichotomy y y' with l | l | l
    · have := dby_mono (a := y + 1) (b := y') (by have := h.y1; omega) (by omega); omega
    · exact l
    · have := dby_mono (a := y' + 1) (b := y) (by have := h'.y1; omega) (by omega); omega
  subst ey
  have em : m = m' := by
    rcases Int.lt_trichotomy m m' with l | l | l
    · have x := dbm_mono y (m := m + 1) (k := m') (by have := h.m1; omega) (by omega) h'.m2
      rw [dbm_succ y h.m1 h.m2] at x; have := h.d2; have := h'.d1; unfold numD at e; omega
    · exact l
    · have x := dbm_mono y (m := m' + 1) (k := m) (by have := h'.m1; omega) (by omega) h.m2
      rw [dbm_succ y h'.m1 h'.m2] at x; have := h'.d2; have := h.d1; unfold numD at e; omega
  subst em
  refine ⟨rfl, rfl, ?_⟩
  unfold numD at e; omega
/-- the year of a day, the month of a day of the year -/
def yrF : Nat → Int → Int
  | 0, _ => 1
  | f + 1, n => if dby ((f : Int) + 2) ≤ n then (f : Int) + 2 else yrF f n
def mthF (y : Int) : Nat → Int → Int
  | 0, _ => 1
  | f + 1, n => if dbm y ((f : Int) + 2) ≤ n then (f : Int) + 2 else mthF y f n
theorem yrF_bd (f : Nat) (n : Int) : 1 ≤ yrF f n ∧ yrF f n ≤ f + 1 := by
  induction f with
  | zero => simp [yrF]
  | succ f ih => unfold yrF; split <;> omega
theorem yrF_lo (f : Nat) {n : Int} (h : 0 ≤ n) : dby (yrF f n) ≤ n := by
  induction f with
  | zero => simp only [yrF]; rw [dby_one]; exact h
  | succ f ih => unfold yrF; split <;> assumption
theorem yrF_hi (f : Nat) {n : Int} (h : n < dby (f + 2)) : n < dby (yrF f n + 1) := by
  induction f with
  | zero => simpa [yrF] using h
  | succ f ih =>
    unfold yrF; split
    · have e : ((f + 1 : Nat) : Int) + 2 = (f : Int) + 2 + 1 := by omega
      rw [e] at h; exact h
    · exact ih (by omega)
theorem mthF_bd (y : Int) (f : Nat) (n : Int) : 1 ≤ mthF y f n ∧ mthF y f n ≤ f + 1 := by
  induction f with
  | zero => simp [mthF]
  | succ f ih => unfold mthF; split <;> omega
theorem mthF_lo (y : Int) (f : Nat) {n : Int} (h : 0 ≤ n) : dbm y (mthF y f n) ≤ n := by
  induction f with
  | zero => simp only [mthF]; rw [dbm_one]; exact h
  | succ f ih => unfold mthF; split <;> assumption
theorem mthF_hi (y : Int) (f : Nat) {n : Int} (h : n < dbm y (f + 2)) : n < dbm y (mthF y f n + 1) := by
  induction f with
  | zero => simpa [mthF] using h
  | succ f ih =>
    unfold mthF; split
    · have e : ((f + 1 : Nat) : Int) + 2 = (f : Int) + 2 + 1 := by omega
      rw [e] at h; exact h
    · exact ih (by omega)
/-- every day has its date -/
theorem date_of {n : Int} (h0 : 0 ≤ n) (h1 : n ≤ 1460969) : ∃ y m d : Int, IsD y m d ∧ numD y m d = n := by
  have a := yrF_bd 3999 n
  have b := yrF_lo 3999 h0
  have c := yrF_hi 3999 (n := n) (by rw [show ((3999 : Nat) : Int) + 2 = 4001 from rfl, dby_last]; omega)
  generalize yrF 3999 n = y at a b c
  have e := dby_succ a.1 (by omega)
  have a' := mthF_bd y 11 (n - dby y)
  have b' := mthF_lo y 11 (n := n - dby y) (by omega)
  have c' := mthF_hi y 11 (n := n - dby y) (by rw [show ((11 : Nat) : Int) + 2 = 13 from rfl, dbm_13]; omega)
  generalize mthF y 11 (n - dby y) = m at a' b' c'
  rw [dbm_succ y a'.1 (by omega)] at c'
  exact ⟨y, m, n - dby y - dbm y m + 1, ⟨a.1, by omega, a'.1, by omega, by omega, by omega⟩, by unfold numD; omega⟩
/-- digits -/
def dg (n : Int) : UInt8 := UInt8.ofNat (48 + n.toNat)
theorem dg_toNat {n : Int} (a : 0 ≤ n) (b : n ≤ 9) : ((dg n).toNat : Int) = 48 + n := by
  unfold dg; rw [UInt8.toNat_ofNat']; omega
def dateL (y m d : Int) : List UInt8 := [dg (y / 1000), dg (y / 100 % 10), dg (y / 10 % 10), dg (y % 10), 46, dg (m / 10), dg (m % 10), 46, dg (d / 10), dg (d % 10)]
def dateT (n : Int) : List UInt8 :=
  if 0 ≤ n ∧ n ≤ 1460969 then
    dateL (yrF 3999 n) (mthF (yrF 3999 n) 11 (n - dby (yrF 3999 n))) (n - dby (yrF 3999 n) - dbm (yrF 3999 n) (mthF (yrF 3999 n) 11 (n - dby (yrF 3999 n))) + 1)
  else []
theorem dateT_out {n : Int} (h : n < 0 ∨ 1460969 < n) : dateT n = [] := by unfold dateT; rw [if_neg (by omega)]
theorem dateT_of {y m d : Int} (h : IsD y m d) : dateT (numD y m d) = dateL y m d := by
  have hb := h.bd
  have a := yrF_bd 3999 (numD y m d)
  have b := yrF_lo 3999 hb.1
  have c := yrF_hi 3999 (n := numD y m d) (by rw [show ((3999 : Nat) : Int) + 2 = 4001 from rfl, dby_last]; omega)
  unfold dateT; rw [if_pos ⟨hb.1, hb.2.2.2⟩]
  generalize yrF 3999 (numD y m d) = y' at a b c
  have e := dby_succ a.1 (by omega)
  have a' := mthF_bd y' 11 (numD y m d - dby y')
  have b' := mthF_lo y' 11 (n := numD y m d - dby y') (by omega)
  have c' := mthF_hi y' 11 (n := numD y m d - dby y') (by rw [show ((11 : Nat) : Int) + 2 = 13 from rfl, dbm_13]; omega)
  generalize mthF y' 11 (numD y m d - dby y') = m' at a' b' c'
  rw [dbm_succ y' a'.1 (by omega)] at c'
  obtain ⟨e1, e2, e3⟩ := num_inj (y' := y') (m' := m') (d' := numD y m d - dby y' - dbm y' m' + 1) h ⟨a.1, by omega, a'.1, by omega, by omega, by omega⟩ (by unfold numD; omega)
  rw [← e1, ← e2]
  subst e1 e2; rw [← e3]
theorem dateL_len (y m d : Int) : (dateL y m d).length = 10 := rfl
theorem dateT_len (n : Int) : (dateT n).length ≤ 10 := by unfold dateT; split <;> simp [dateL]
def dg4 (y : Int) : List UInt8 := [dg (y / 1000), dg (y / 100 % 10), dg (y / 10 % 10), dg (y % 10)]
def dg2 (m : Int) : List UInt8 := [dg (m / 10), dg (m % 10)]
theorem dateL_parts (y m d : Int) : dateL y m d = dg4 y ++ [46] ++ dg2 m ++ [46] ++ dg2 d := rfl
/-- the value of a byte as a digit -/
def dvB (c : UInt8) : Int := (c.toNat : Int) - 48
def dcB (c : UInt8) : Bool := digI c.toNat
theorem dcB_bd {c : UInt8} (h : dcB c = true) : 0 ≤ dvB c ∧ dvB c ≤ 9 := by have := digI_bd h; unfold dvB; omega
theorem dg_dv {c : UInt8} (h : dcB c = true) : dg (dvB c) = c := by
  have b := dcB_bd h
  apply UInt8.toNat_inj.1
  have := dg_toNat b.1 b.2; unfold dvB at this ⊢; omega
theorem dc_dg {n : Int} (a : 0 ≤ n) (b : n ≤ 9) : dcB (dg n) = true := by unfold dcB; rw [dg_toNat a b]; exact digI_true (by omega) (by omega)
theorem dv_dg {n : Int} (a : 0 ≤ n) (b : n ≤ 9) : dvB (dg n) = n := by unfold dvB; rw [dg_toNat a b]; omega
/-- digits, read from the left -/
def rdv (l : List UInt8) : Int := l.foldl (fun a c => 10 * a + dvB c) 0
theorem rdv_snoc (l : List UInt8) (c : UInt8) : rdv (l ++ [c]) = 10 * rdv l + dvB c := by simp [rdv, List.foldl_append]
theorem rdv_bdA (l : List UInt8) : ∀ a : Int, 0 ≤ a → l.all dcB = true → 0 ≤ l.foldl (fun a c => 10 * a + dvB c) a ∧ l.foldl (fun a c => 10 * a + dvB c) a < (a + 1) * 10 ^ l.length := by
  induction l with
  | nil => intro a h _; simp; omega
  | cons c l ih =>
    intro a h hl
    rw [List.all_cons, Bool.and_eq_true] at hl
    have b := dcB_bd hl.1
    have i := ih (10 * a + dvB c) (by omega) hl.2
    refine ⟨i.1, Int.lt_of_lt_of_le i.2 ?_⟩
    rw [List.length_cons, Int.pow_succ]
    have e : (a + 1) * (10 ^ l.length * 10) = (10 * (a + 1)) * 10 ^ l.length := by
      rw [Int.mul_comm (10 ^ l.length) 10, ← Int.mul_assoc, Int.mul_comm (a + 1) 10]
    rw [e]
    exact Int.mul_le_mul_of_nonneg_right (by omega) (Int.pow_nonneg (by omega))
theorem rdv_bd (l : List UInt8) (h : l.all dcB = true) : 0 ≤ rdv l ∧ rdv l < 10 ^ l.length := by
  have := rdv_bdA l 0 (by omega) h
  simpa [rdv] using this
structure GoodD (l : List UInt8) : Prop where
  len : l.length = 10
  p4 : l.getD 4 0 = 46
  p7 : l.getD 7 0 = 46
  a : (l.take 4).all dcB = true
  b : ((l.drop 5).take 2).all dcB = true
  c : (l.drop 8).all dcB = true
instance (l : List UInt8) : Decidable (GoodD l) :=
  decidable_of_iff (l.length = 10 ∧ l.getD 4 0 = 46 ∧ l.getD 7 0 = 46 ∧ (l.take 4).all dcB = true ∧ ((l.drop 5).take 2).all dcB = true ∧ (l.drop 8).all dcB = true)
    ⟨fun ⟨a, b, c, d, e, f⟩ => ⟨a, b, c, d, e, f⟩, fun ⟨a, b, c, d, e, f⟩ => ⟨a, b, c, d, e, f⟩⟩
def yv (l : List UInt8) : Int := rdv (l.take 4)
def mv (l : List UInt8) : Int := rdv ((l.drop 5).take 2)
def dv (l : List UInt8) : Int := rdv (l.drop 8)
/-- the day of a date -/
def readD (l : List UInt8) : Int := if GoodD l then dayN (yv l) (mv l) (dv l) else -1
theorem ten {l : List UInt8} (h : l.length = 10) : ∃ a b c d e f g i j k, l = [a, b, c, d, e, f, g, i, j, k] := by
  match l, h with
  | [a, b, c, d, e, f, g, i, j, k], _ => exact ⟨a, b, c, d, e, f, g, i, j, k, rfl⟩
theorem good_dateL {y m d : Int} (h : 0 ≤ y) (h' : y ≤ 9999) (i : 0 ≤ m) (i' : m ≤ 99) (j : 0 ≤ d) (j' : d ≤ 99) : GoodD (dateL y m d) ∧ yv (dateL y m d) = y ∧ mv (dateL y m d) = m ∧ dv (dateL y m d) = d := by
  have a1 := dc_dg (n := y / 1000) (by omega) (by omega)
  have a2 := dc_dg (n := y / 100 % 10) (by omega) (by omega)
  have a3 := dc_dg (n := y / 10 % 10) (by omega) (by omega)
  have a4 := dc_dg (n := y % 10) (by omega) (by omega)
  have b1 := dc_dg (n := m / 10) (by omega) (by omega)
  have b2 := dc_dg (n := m % 10) (by omega) (by omega)
  have c1 := dc_dg (n := d / 10) (by omega) (by omega)
  have c2 := dc_dg (n := d % 10) (by omega) (by omega)
  refine ⟨⟨rfl, rfl, rfl, ?_, ?_, ?_⟩, ?_, ?_, ?_⟩
  · simp [dateL, a1, a2, a3, a4]
  · simp [dateL, b1, b2]
  · simp [dateL, c1, c2]
  · show 10 * (10 * (10 * (10 * 0 + dvB (dg (y / 1000))) + dvB (dg (y / 100 % 10))) + dvB (dg (y / 10 % 10))) + dvB (dg (y % 10)) = y
    rw [dv_dg (by omega) (by omega), dv_dg (by omega) (by omega), dv_dg (by omega) (by omega), dv_dg (by omega) (by omega)]; omega
  · show 10 * (10 * 0 + dvB (dg (m / 10))) + dvB (dg (m % 10)) = m
    rw [dv_dg (by omega) (by omega), dv_dg (by omega) (by omega)]; omega
  · show 10 * (10 * 0 + dvB (dg (d / 10))) + dvB (dg (d % 10)) = d
    rw [dv_dg (by omega) (by omega), dv_dg (by omega) (by omega)]; omega
theorem good_back {l : List UInt8} (h : GoodD l) : dateL (yv l) (mv l) (dv l) = l := by
  obtain ⟨hl, p4, p7, ha, hb, hc⟩ := h
  obtain ⟨a, b, c, d, e, f, g, i, j, k, rfl⟩ := ten hl
  simp only [List.getD_cons_succ, List.getD_cons_zero] at p4 p7
  simp only [List.take_succ_cons, List.take_zero, List.drop_succ_cons, List.drop_zero, List.all_cons, List.all_nil, Bool.and_true, Bool.and_eq_true] at ha hb hc
  subst p4 p7
  have A := dcB_bd ha.1; have B := dcB_bd ha.2.1; have C := dcB_bd ha.2.2.1; have D := dcB_bd ha.2.2.2
  have F := dcB_bd hb.1; have G := dcB_bd hb.2; have J := dcB_bd hc.1; have K := dcB_bd hc.2
  have ey : yv [a, b, c, d, 46, f, g, 46, j, k] = 10 * (10 * (10 * (10 * 0 + dvB a) + dvB b) + dvB c) + dvB d := rfl
  have em : mv [a, b, c, d, 46, f, g, 46, j, k] = 10 * (10 * 0 + dvB f) + dvB g := rfl
  have ed : dv [a, b, c, d, 46, f, g, 46, j, k] = 10 * (10 * 0 + dvB j) + dvB k := rfl
  rw [ey, em, ed]; unfold dateL
  rw [show (10 * (10 * (10 * (10 * 0 + dvB a) + dvB b) + dvB c) + dvB d) / 1000 = dvB a by omega, show (10 * (10 * (10 * (10 * 0 + dvB a) + dvB b) + dvB c) + dvB d) / 100 % 10 = dvB b by omega, show (10 * (10 * (10 * (10 * 0 + dvB a) + dvB b) + dvB c) + dvB d) / 10 % 10 = dvB c by omega, show (10 * (10 * (10 * (10 * 0 + dvB a) + dvB b) + dvB c) + dvB d) % 10 = dvB d by omega, show (10 * (10 * 0 + dvB f) + dvB g) / 10 = dvB f by omega, show (10 * (10 * 0 + dvB f) + dvB g) % 10 = dvB g by omega, show (10 * (10 * 0 + dvB j) + dvB k) / 10 = dvB j by omega, show (10 * (10 * 0 + dvB j) + dvB k) % 10 = dvB k by omega,
    dg_dv ha.1, dg_dv ha.2.1, dg_dv ha.2.2.1, dg_dv ha.2.2.2, dg_dv hb.1, dg_dv hb.2, dg_dv hc.1, dg_dv hc.2]
theorem isD_rng {y m d : Int} (h : IsD y m d) : 0 ≤ y ∧ y ≤ 9999 ∧ 0 ≤ m ∧ m ≤ 99 ∧ 0 ≤ d ∧ d ≤ 99 := by
  have := md12_bd y m; have := h.y1; have := h.y2; have := h.m1; have := h.m2; have := h.d1; have := h.d2; omega
theorem readD_date {y m d : Int} (h : IsD y m d) : readD (dateL y m d) = numD y m d := by
  obtain ⟨a1, a2, a3, a4, a5, a6⟩ := isD_rng h
  obtain ⟨g, e1, e2, e3⟩ := good_dateL a1 a2 a3 a4 a5 a6
  unfold readD; rw [if_pos g, e1, e2, e3, dayN_in h]
theorem readD_bad {l : List UInt8} (h : ¬ GoodD l) : readD l = -1 := by unfold readD; rw [if_neg h]
theorem readD_good {l : List UInt8} (h : GoodD l) : readD l = dayN (yv l) (mv l) (dv l) := by unfold readD; rw [if_pos h]
/-- either no date, or one -/
theorem readD_lo (l : List UInt8) : readD l = -1 ∨ ∃ y m d, IsD y m d ∧ l = dateL y m d ∧ readD l = numD y m d := by
  by_cases h : GoodD l
  · by_cases hd : 1 ≤ dv l ∧ dv l ≤ mdays (yv l) (mv l)
    · have hi := isD_of hd.1 hd.2
      exact .inr ⟨_, _, _, hi, (good_back h).symm, by rw [readD_good h, dayN_in hi]⟩
    · exact .inl (by rw [readD_good h, dayN_no (by omega)])
  · exact .inl (readD_bad h)
/-- the reference's scan -/
structure Scn where
  at' : Nat
  a : Int
  b : Int
  c : Int
def Scn.dot (s : Scn) : Scn := ⟨s.at' + 1, s.a, s.b, s.c⟩
def Scn.dig (s : Scn) (x : Int) : Scn := if s.at' = 0 then ⟨s.at', 10 * s.a + x, s.b, s.c⟩ else if s.at' = 1 then ⟨s.at', s.a, 10 * s.b + x, s.c⟩ else ⟨s.at', s.a, s.b, 10 * s.c + x⟩
def Scn.step (s : Scn) (c : UInt8) : Scn := if c = 46 ∧ s.at' < 2 then s.dot else s.dig (dvB c)
def scan (l : List UInt8) : Scn := l.foldl Scn.step ⟨0, 0, 0, 0⟩
theorem scan_snoc (l : List UInt8) (c : UInt8) : scan (l ++ [c]) = (scan l).step c := by simp [scan, List.foldl_append]
/-- the digit of a value below 36 -/
def mdig (d : Nat) : UInt8 := if d < 10 then UInt8.ofNat (48 + d) else UInt8.ofNat (87 + d)
/-- the value of a digit, -1 for other bytes -/
def mval (c : UInt8) : Int := if digI c.toNat then (c.toNat : Int) - 48 else if smlI c.toNat then (c.toNat : Int) - 87 else -1
/-- digits of n with fuel, nothing for 0 -/
def mkF : Nat → Nat → List UInt8
  | 0, _ => []
  | f + 1, n => if n = 0 then [] else mkF f (n / 36) ++ [mdig (n % 36)]
def mk (n : Nat) : List UInt8 := mkF n n
theorem mkF_more : ∀ (f g n : Nat), n ≤ f → n ≤ g → mkF f n = mkF g n := by
  intro f
  induction f with
  | zero =>
    intro g n h _
    have : n = 0 := by omega
    subst this
    cases g <;> simp [mkF]
  | succ f ih =>
    intro g n h h'
    cases g with
    | zero => have : n = 0 := by omega
              subst this; simp [mkF]
    | succ g =>
      by_cases e : n = 0
      · simp [mkF, e]
      · simp only [mkF, e, if_false]
        rw [ih g (n / 36) (by omega) (by omega)]
theorem mk_zero : mk 0 = [] := rfl
theorem mk_pos {n : Nat} (h : 0 < n) : mk n = mk (n / 36) ++ [mdig (n % 36)] := by
  unfold mk
  obtain ⟨m, rfl⟩ : ∃ m, n = m + 1 := ⟨n - 1, by omega⟩
  rw [mkF, if_neg (by omega), mkF_more m ((m + 1) / 36) _ (by omega) (by omega)]
/-- the mark of a number -/
def markL (n : Nat) : List UInt8 := mk (n / 36) ++ [mdig (n % 36)]
def markT (n : Int) : List UInt8 := if 0 ≤ n ∧ n ≤ 1000000000 then markL n.toNat else []
theorem markT_in {n : Nat} (h : n ≤ 1000000000) : markT n = markL n := by unfold markT; rw [if_pos ⟨by omega, by omega⟩]; rfl
theorem markT_out {n : Int} (h : n < 0 ∨ 1000000000 < n) : markT n = [] := by unfold markT; rw [if_neg (by omega)]
theorem markL_pos {n : Nat} (h : 0 < n) : markL n = mk n := (mk_pos h).symm
theorem markL_ne (n : Nat) : markL n ≠ [] := by unfold markL; simp
theorem mdig_val : ∀ d : Fin 36, mval (mdig d) = d := by decide +kernel
theorem mval_mdig {d : Nat} (h : d < 36) : mval (mdig d) = d := mdig_val ⟨d, h⟩
theorem mdig_of_all : ∀ c : Fin 256, 0 ≤ mval (UInt8.ofNat c) → mdig (mval (UInt8.ofNat c)).toNat = UInt8.ofNat c := by decide +kernel
theorem mdig_mval {c : UInt8} (h : 0 ≤ mval c) : mdig (mval c).toNat = c := by
  have := mdig_of_all ⟨c.toNat, c.toNat_lt⟩
  simp only [UInt8.ofNat_toNat] at this
  exact this h
theorem mval_lt_all : ∀ c : Fin 256, mval (UInt8.ofNat c) < 36 ∧ -1 ≤ mval (UInt8.ofNat c) := by decide +kernel
theorem mval_lt (c : UInt8) : mval c < 36 := by
  have := (mval_lt_all ⟨c.toNat, c.toNat_lt⟩).1
  simpa only [UInt8.ofNat_toNat] using this
theorem mval_ge (c : UInt8) : -1 ≤ mval c := by
  have := (mval_lt_all ⟨c.toNat, c.toNat_lt⟩).2
  simpa only [UInt8.ofNat_toNat] using this
theorem mdig_zero_all : ∀ d : Fin 36, mdig d = 48 → (d : Nat) = 0 := by decide +kernel
theorem mdig_zero {d : Nat} (h : d < 36) (e : mdig d = 48) : d = 0 := mdig_zero_all ⟨d, h⟩ e
/-- the number that digits stand for (values of other bytes count as 0) -/
def val (l : List UInt8) : Nat := l.foldl (fun a c => a * 36 + (mval c).toNat) 0
theorem val_snoc (l : List UInt8) (c : UInt8) : val (l ++ [c]) = val l * 36 + (mval c).toNat := by simp [val, List.foldl_append]
theorem val_go (l : List UInt8) : ∀ a b : Nat, a ≤ b → a ≤ l.foldl (fun a c => a * 36 + (mval c).toNat) b := by
  induction l with
  | nil => intro a b h; simpa using h
  | cons c l ih => intro a b h; simp only [List.foldl_cons]; exact ih _ _ (by omega)
theorem val_take_le (l : List UInt8) (k : Nat) : val (l.take k) ≤ val l := by
  have e : val l = (l.drop k).foldl (fun a c => a * 36 + (mval c).toNat) (val (l.take k)) := by
    unfold val; rw [← List.foldl_append, List.take_append_drop]
  rw [e]; exact val_go _ _ _ (Nat.le_refl _)
def digOk (c : UInt8) : Bool := decide (0 ≤ mval c)
/-- a text that is written as marks are -/
def canon (l : List UInt8) : Bool := l.all digOk && (decide (l.length = 1) || (decide (0 < l.length) && decide (l.headD 0 ≠ 48)))
def readM (l : List UInt8) : Int := if canon l = true ∧ val l ≤ 1000000000 then val l else -1
theorem mk_all : ∀ (f n : Nat), n ≤ f → (mk n).all digOk = true := by
  intro f
  induction f with
  | zero => intro n h; have : n = 0 := by omega
            subst this; rfl
  | succ f ih =>
    intro n h
    by_cases e : n = 0
    · subst e; rfl
    · rw [mk_pos (by omega), List.all_append, ih _ (by omega)]
      simp [digOk, mval_mdig (show n % 36 < 36 by omega)]; omega
theorem markL_all (n : Nat) : (markL n).all digOk = true := by
  unfold markL; rw [List.all_append, mk_all _ _ (Nat.le_refl _)]; simp [digOk, mval_mdig (show n % 36 < 36 by omega)]; omega
theorem mk_val : ∀ (f n : Nat), n ≤ f → val (mk n) = n := by
  intro f
  induction f with
  | zero => intro n h; have : n = 0 := by omega
            subst this; rfl
  | succ f ih =>
    intro n h
    by_cases e : n = 0
    · subst e; rfl
    · rw [mk_pos (by omega), val_snoc, ih _ (by omega), mval_mdig (show n % 36 < 36 by omega)]; omega
theorem markL_val (n : Nat) : val (markL n) = n := by
  unfold markL; rw [val_snoc, mk_val _ _ (Nat.le_refl _), mval_mdig (show n % 36 < 36 by omega)]; omega
theorem head_append (l m : List UInt8) (h : l ≠ []) : (l ++ m).headD 0 = l.headD 0 := by
  cases l with
  | nil => exact absurd rfl h
  | cons a l => rfl
theorem mk_head : ∀ (f n : Nat), n ≤ f → 0 < n → mk n ≠ [] ∧ (mk n).headD 0 ≠ 48 := by
  intro f
  induction f with
  | zero => intro n h h'; omega
  | succ f ih =>
    intro n h h'
    rw [mk_pos h']
    refine ⟨by simp, ?_⟩
    by_cases e : n / 36 = 0
    · rw [e, mk_zero]
      simp only [List.nil_append]
      intro h48
      have := mdig_zero (show n % 36 < 36 by omega) h48
      omega
    · have := ih (n / 36) (by omega) (by omega)
      rw [head_append _ _ this.1]; exact this.2
theorem markL_canon (n : Nat) : canon (markL n) = true := by
  unfold canon
  rw [markL_all]
  by_cases e : n = 0
  · subst e; rfl
  · rw [markL_pos (by omega)]
    have := mk_head n n (Nat.le_refl _) (by omega)
    have hl : 0 < (mk n).length := List.length_pos_iff.2 this.1
    simp only [Bool.true_and, Bool.or_eq_true, Bool.and_eq_true, decide_eq_true_eq]
    exact .inr ⟨hl, this.2⟩
/-- reading a mark gives the number -/
theorem readM_markL {n : Nat} (h : n ≤ 1000000000) : readM (markL n) = n := by
  unfold readM; rw [if_pos ⟨markL_canon n, by rw [markL_val]; exact h⟩, markL_val]
theorem val_pos : ∀ (l : List UInt8), l.all digOk = true → l ≠ [] → l.headD 0 ≠ 48 → 0 < val l := by
  intro l ha hn h0
  cases l with
  | nil => exact absurd rfl hn
  | cons c l =>
    simp only [List.headD_cons] at h0
    simp only [List.all_cons, Bool.and_eq_true] at ha
    have hc : 0 ≤ mval c := of_decide_eq_true ha.1
    have : (mval c).toNat ≠ 0 := by
      intro e
      apply h0
      rw [← mdig_mval hc, e]; rfl
    unfold val
    simp only [List.foldl_cons]
    exact Nat.lt_of_lt_of_le (by omega) (val_go l _ _ (Nat.le_refl _))
theorem mk_of_canon : ∀ (m : Nat) (l : List UInt8), l.length ≤ m → l.all digOk = true → l ≠ [] → l.headD 0 ≠ 48 → mk (val l) = l := by
  intro m
  induction m with
  | zero => intro l h _ hn _; exact absurd (List.length_eq_zero_iff.1 (by omega)) hn
  | succ m ih =>
    intro l h ha hn h0
    have hp := val_pos l ha hn h0
    obtain ⟨l', c, rfl⟩ : ∃ l' c, l = l' ++ [c] := ⟨l.dropLast, l.getLast hn, (List.dropLast_concat_getLast hn).symm⟩
    rw [List.all_append, Bool.and_eq_true] at ha
    have hc : 0 ≤ mval c := by have := ha.2; simp [digOk] at this; exact this
    have hlt := mval_lt c
    rw [mk_pos hp, val_snoc]
    have e1 : (val l' * 36 + (mval c).toNat) / 36 = val l' := by omega
    have e2 : (val l' * 36 + (mval c).toNat) % 36 = (mval c).toNat := by omega
    rw [e1, e2, mdig_mval hc]
    by_cases e : l' = []
    · subst e; rfl
    · rw [ih l' (by simp at h; omega) ha.1 e (by rw [head_append _ _ e] at h0; exact h0)]
theorem markL_of_canon {l : List UInt8} (h : canon l = true) : markL (val l) = l := by
  unfold canon at h
  simp only [Bool.and_eq_true, Bool.or_eq_true, decide_eq_true_eq] at h
  obtain ⟨ha, h⟩ := h
  by_cases hz : l.headD 0 = 48
  · rcases h with h | h
    · match l, h with
      | [c], _ =>
        simp only [List.headD_cons] at hz
        subst hz; decide
    · exact absurd hz h.2
  · have hn : l ≠ [] := by
      rcases h with h | h
      · intro e; subst e; simp at h
      · intro e; subst e; simp at h
    rw [markL_pos (val_pos l ha hn hz)]
    exact mk_of_canon l.length l (Nat.le_refl _) ha hn hz
theorem mk_len : ∀ (f n : Nat), n < 36 ^ f → (mk n).length ≤ f := by
  intro f
  induction f with
  | zero => intro n h; have : n = 0 := by simpa using h
            subst this; simp [mk_zero]
  | succ f ih =>
    intro n h
    by_cases e : n = 0
    · subst e; simp [mk_zero]
    · rw [mk_pos (by omega)]
      have : n / 36 < 36 ^ f := by rw [Nat.pow_succ] at h; omega
      have := ih _ this
      simp; omega
theorem markL_len {n : Nat} (h : n ≤ 1000000000) : (markL n).length ≤ 6 := by
  unfold markL
  have := mk_len 5 (n / 36) (by simp; omega)
  simp; omega
theorem canon_ne {l : List UInt8} (h : canon l = true) : l ≠ [] := by intro e; subst e; simp [canon] at h
/-- a mark with a zero before it is none -/
theorem readM_zero {l : List UInt8} (h : l ≠ []) : readM (48 :: l) = -1 := by
  unfold readM
  rw [if_neg]
  intro hh
  have := hh.1
  unfold canon at this
  simp at this
  exact h this.2
theorem readM_lo (l : List UInt8) : readM l = -1 ∨ (0 ≤ readM l ∧ readM l ≤ 1000000000 ∧ canon l = true ∧ readM l = val l) := by
  unfold readM
  by_cases h : canon l = true ∧ val l ≤ 1000000000
  · rw [if_pos h]; exact .inr ⟨by omega, by omega, h.1, rfl⟩
  · rw [if_neg h]; exact .inl rfl
theorem markT_len (n : Int) : (markT n).length ≤ 6 := by
  by_cases h : n < 0 ∨ 1000000000 < n
  · rw [markT_out h]; simp
  · obtain ⟨m, rfl⟩ : ∃ m : Nat, n = m := ⟨n.toNat, by omega⟩
    rw [markT_in (by omega)]; exact markL_len (by omega)
theorem mval_dig {c : UInt8} (h : digI c.toNat = true) : mval c = (c.toNat : Int) - 48 := by simp [mval, h]
theorem mval_sml {c : UInt8} (h : digI c.toNat = false) (h' : smlI c.toNat = true) : mval c = (c.toNat : Int) - 87 := by simp [mval, h, h']
theorem mval_no {c : UInt8} (h : digI c.toNat = false) (h' : smlI c.toNat = false) : mval c = -1 := by simp [mval, h, h']
theorem readM_of {l : List UInt8} (h : ¬ (canon l = true ∧ val l ≤ 1000000000)) : readM l = -1 := by unfold readM; rw [if_neg h]
theorem readM_nil : readM [] = -1 := rfl
theorem readM_lead {l : List UInt8} (h : 1 < l.length) (h0 : l.headD 0 = 48) : readM l = -1 := by
  apply readM_of; intro hh; have := hh.1; unfold canon at this; rw [h0] at this; simp at this; omega
theorem readM_badc {s : ByteArray} {k : Nat} (h : k < s.size) (b : mval s[k] < 0) : readM s.data.toList = -1 := by
  apply readM_of; intro hh; have := hh.1; unfold canon at this
  rw [all_bad (p := digOk) h (by simp [digOk]; omega)] at this; simp at this
theorem val_take_succ (s : ByteArray) (k : Nat) (h : k < s.size) : val (s.data.toList.take (k + 1)) = val (s.data.toList.take k) * 36 + (mval s[k]).toNat := by
  rw [btake s k h, val_snoc]
theorem readM_big {s : ByteArray} {k : Nat} (h : k < s.size) (b : 1000000000 < val (s.data.toList.take k) * 36 + (mval s[k]).toNat) : readM s.data.toList = -1 := by
  apply readM_of; intro hh
  have := val_take_le s.data.toList (k + 1)
  rw [val_take_succ s k h] at this
  omega
theorem readM_good {s : ByteArray} {k n : Nat} (h : s.size ≤ k) (hn : val (s.data.toList.take k) = n) (ha : (s.data.toList.take k).all digOk = true) (hv : n ≤ 1000000000) (h1 : 1 ≤ s.size)
    (h0 : s.size = 1 ∨ s[0] ≠ 48) : readM s.data.toList = n := by
  rw [bfull s k h] at hn ha
  unfold readM
  rw [if_pos ⟨by
    unfold canon
    rw [ha, blen, bhead s h1]
    simp only [Bool.true_and, Bool.or_eq_true, Bool.and_eq_true, decide_eq_true_eq]
    rcases h0 with h0 | h0
    · exact .inl h0
    · exact .inr ⟨by omega, h0⟩, by omega⟩, hn]
/-- what is known after k bytes -/
def PreM (l : List UInt8) (k n : Nat) : Prop := val (l.take k) = n ∧ (l.take k).all digOk = true
theorem preM_next {s : ByteArray} {k n : Nat} (h : k < s.size) (p : PreM s.data.toList k n) (b : 0 ≤ mval s[k]) : PreM s.data.toList (k + 1) (n * 36 + (mval s[k]).toNat) :=
  ⟨by rw [val_take_succ s k h, p.1], all_snoc h p.2 (by simp [digOk]; omega)⟩
theorem byte48 {c : UInt8} (h : ((c.toNat : Int) == 48) = false) : c ≠ 48 := by rintro rfl; simp at h
theorem byte48' {c : UInt8} (h : ((c.toNat : Int) == 48) = true) : c = 48 := by
  have : (c.toNat : Int) = 48 := by simpa using h
  apply UInt8.toNat_inj.1; show c.toNat = 48; omega
theorem val_lt : ∀ (m : Nat) (l : List UInt8), l.length ≤ m → val l < 36 ^ m := by
  intro m
  induction m with
  | zero => intro l h; have : l = [] := List.length_eq_zero_iff.1 (by omega)
            subst this; decide
  | succ m ih =>
    intro l h
    by_cases e : l = []
    · subst e; exact Nat.pos_of_ne_zero (by simp)
    · obtain ⟨l', c, rfl⟩ : ∃ l' c, l = l' ++ [c] := ⟨l.dropLast, l.getLast e, (List.dropLast_concat_getLast e).symm⟩
      have := ih l' (by simp at h; omega)
      have := mval_lt c
      rw [val_snoc, Nat.pow_succ]; omega
theorem preM_bd {l : List UInt8} {k n : Nat} (p : PreM l k n) (h : k ≤ 7) : n ≤ 78364164096 := by
  have := val_lt 7 (l.take k) (by have := List.length_take_le k l; omega)
  rw [p.1] at this; simp at this; omega
theorem preM_bd6 {l : List UInt8} {k n : Nat} (p : PreM l k n) (h : k ≤ 6) : n ≤ 2176782336 := by
  have := val_lt 6 (l.take k) (by have := List.length_take_le k l; omega)
  rw [p.1] at this; simp at this; omega
theorem readM_eq {s : ByteArray} {n : Nat} (h : bs (markT n) = s) (hne : s.size ≠ 0) : readM s.data.toList = n := by
  have e : markT n = s.data.toList := bs_inj (by rw [h]; rfl)
  have hle : (n : Int) ≤ 1000000000 := by
    rcases Int.lt_or_le 1000000000 (n : Int) with hb | hb
    · rw [markT_out (.inr hb)] at e
      have := blen s; rw [← e] at this; simp at this; omega
    · exact hb
  rw [markT_in (by omega)] at e
  rw [← e, readM_markL (by omega)]
theorem readM_neq {s : ByteArray} {k n : Nat} (p : PreM s.data.toList k n) (hk7 : s.size ≤ k ∨ (7 ≤ k ∧ k ≤ s.size)) (h : ¬ bs (markT n) = s) : readM s.data.toList = -1 := by
  apply readM_of
  rintro ⟨hc, hv⟩
  have e := markL_of_canon hc
  have hl := markL_len hv
  rw [e, blen] at hl
  rcases hk7 with hk | hk
  · have hn := p.1
    rw [bfull s k hk] at hn
    apply h
    rw [← hn, markT_in hv, e]; rfl
  · omega
theorem dg_lt {a b : Int} (a0 : 0 ≤ a) (a9 : a ≤ 9) (b0 : 0 ≤ b) (b9 : b ≤ 9) : (dg a < dg b) ↔ a < b := by
  have h1 := dg_toNat a0 a9; have h2 := dg_toNat b0 b9
  rw [UInt8.lt_iff_toNat_lt]; omega
theorem dg_eq {a b : Int} (a0 : 0 ≤ a) (a9 : a ≤ 9) (b0 : 0 ≤ b) (b9 : b ≤ 9) : (dg a = dg b) ↔ a = b := by
  have h1 := dg_toNat a0 a9; have h2 := dg_toNat b0 b9
  rw [← UInt8.toNat_inj]; omega
theorem bl_dg {a b : Int} (a0 : 0 ≤ a) (a9 : a ≤ 9) (b0 : 0 ≤ b) (b9 : b ≤ 9) (x y : List UInt8) : Op.bytesLess (dg a :: x) (dg b :: y) = true ↔ a < b ∨ (a = b ∧ Op.bytesLess x y = true) := by
  rw [Op.bytesLess, Bool.or_eq_true, Bool.and_eq_true, decide_eq_true_eq, beq_iff_eq, dg_lt a0 a9 b0 b9, dg_eq a0 a9 b0 b9]
theorem bl_pt (x y : List UInt8) : Op.bytesLess (46 :: x) (46 :: y) = true ↔ Op.bytesLess x y = true := by
  rw [Op.bytesLess]; simp
theorem date_less {y m d y' m' d' : Int} (h : IsD y m d) (h' : IsD y' m' d') (l : y < y' ∨ (y = y' ∧ (m < m' ∨ (m = m' ∧ d < d')))) : Op.bytesLess (dateL y m d) (dateL y' m' d') = true := by
  obtain ⟨a1, a2, a3, a4, a5, a6⟩ := isD_rng h
  obtain ⟨b1, b2, b3, b4, b5, b6⟩ := isD_rng h'
  unfold dateL
  rw [bl_dg (by omega) (by omega) (by omega) (by omega), bl_dg (by omega) (by omega) (by omega) (by omega), bl_dg (by omega) (by omega) (by omega) (by omega), bl_dg (by omega) (by omega) (by omega) (by omega), bl_pt,
    bl_dg (by omega) (by omega) (by omega) (by omega), bl_dg (by omega) (by omega) (by omega) (by omega), bl_pt, bl_dg (by omega) (by omega) (by omega) (by omega), bl_dg (by omega) (by omega) (by omega) (by omega)]
  rcases l with l | ⟨rfl, l | ⟨rfl, l⟩⟩
  · clear h h'; omega
  · clear h h'; refine .inr ⟨rfl, .inr ⟨rfl, .inr ⟨rfl, .inr ⟨rfl, ?_⟩⟩⟩⟩; omega
  · clear h h'; refine .inr ⟨rfl, .inr ⟨rfl, .inr ⟨rfl, .inr ⟨rfl, .inr ⟨rfl, .inr ⟨rfl, ?_⟩⟩⟩⟩⟩⟩; omega
theorem date_lex {y m d y' m' d' : Int} (h : IsD y m d) (h' : IsD y' m' d') (e : numD y m d < numD y' m' d') : y < y' ∨ (y = y' ∧ (m < m' ∨ (m = m' ∧ d < d'))) := by
  have a := h.bd; have b := h'.bd
  rcases Int.lt_trichotomy y y' with l | l | l
  · exact .inl l
  · refine .inr ⟨l, ?_⟩
    subst l
    rcases Int.lt_trichotomy m m' with k | k | k
    · exact .inl k
    · refine .inr ⟨k, ?_⟩
      subst k; unfold numD at e; omega
    · have x := dbm_mono y (m := m' + 1) (k := m) (by have := h'.m1; omega) (by omega) h.m2
      rw [dbm_succ y h'.m1 h'.m2] at x; have := h'.d2; have := h.d1; unfold numD at e; omega
  · have := dby_mono (a := y' + 1) (b := y) (by have := h'.y1; omega) (by omega); omega
theorem less_asymm {a b : List UInt8} (h : Op.bytesLess a b = true) : Op.bytesLess b a = false ∧ b ≠ a := by
  rw [bytesLess_eq] at h
  have h := of_decide_eq_true h
  refine ⟨?_, ?_⟩
  · rw [bytesLess_eq]; exact decide_eq_false (List.lt_asymm h)
  · rintro rfl; exact List.lt_irrefl _ h
theorem dateT_next {n : Int} (h0 : 0 ≤ n) (h1 : n + 1 ≤ 1460969) : Op.bytesLess (dateT (n + 1)) (dateT n) = false ∧ dateT (n + 1) ≠ dateT n := by
  obtain ⟨y, m, d, hd, e⟩ := date_of h0 (by omega : n ≤ 1460969)
  obtain ⟨y', m', d', hd', e'⟩ := date_of (by omega : 0 ≤ n + 1) h1
  rw [← e', ← e, dateT_of hd, dateT_of hd']
  exact less_asymm (date_less hd hd' (date_lex hd hd' (by omega)))
theorem dateT_ten {n : Int} (h0 : 0 ≤ n) (h1 : n ≤ 1460969) : (dateT n).length = 10 ∧ readD (dateT n) = n := by
  obtain ⟨y, m, d, hd, e⟩ := date_of h0 h1
  rw [← e, dateT_of hd]
  exact ⟨rfl, readD_date hd⟩
theorem readD_nil : readD [] = -1 := readD_bad (fun g => by have := g.len; simp at this)
theorem readD_long {l : List UInt8} (h : l.length ≠ 10) : readD l = -1 := readD_bad (fun g => h g.len)
/-- a text, and memory that grew -/
def GotStr (l : List UInt8) (w : World) (e : Ending) (w' : World) : Prop := e = .returned (.string (bs l)) ∧ Below w.heap.size w w'
theorem below_trans {a b c : World} (h : Below a.heap.size a b) (k : Below b.heap.size b c) : Below a.heap.size a c := h.trans (k.mono h.size)
theorem below_trans' {a b c : World} (h : Below a.heap.size a b) (k : Below b.heap.size b c) : Below a.heap.size a c := h.trans (k.mono h.size)
theorem back_of (w : World) (b : Nat) (l : List UInt8) (k : Nat) (hk : l.length = k) (c : Nat) (h : ∀ j (hj : j < l.length), w.cell? ⟨b, j, none⟩ = some (.int .u8 l[j].toNat)) : (convert 22 9 (.slice (some ⟨b, 0, none⟩) k c)).run Try.prog w = .ok (.string (bs l)) w := by
  subst hk
  exact run_convert_bytes_back (P := Try.prog) w 22 9 5 ⟨b, 0, none⟩ c l Try.underlying22 Try.underlying5 Try.underlying9 (by
    intro j hj
    have e : (⟨b, 0, none⟩ : Addr).add j = ⟨b, j, none⟩ := by unfold Addr.add; split <;> simp_all
    rw [e]; exact h j hj)
theorem conv1 (w : World) (a : UInt8) : (convert 22 9 (.slice (some ⟨w.heap.size, 0, none⟩) 1 1)).run Try.prog (w.alloc (.cells #[.int .u8 a.toNat] 5)) = .ok (.string (bs [a])) (w.alloc (.cells #[.int .u8 a.toNat] 5)) :=
  back_of _ _ [a] 1 rfl 1 (by
    intro j hj
    rw [World.cell?_alloc_new w _ _ j]
    match j, hj with
    | 0, _ => rfl)
/-- a text and whether there is one, and memory that grew -/
def GotTB (p : List UInt8 × Bool) (w : World) (e : Ending) (w' : World) : Prop := e = .returned (.tuple #[.string (bs p.1), .bool p.2]) ∧ Below w.heap.size w w'
/-- it answered, and at most drew -/
def Quiet (v : Value) (w : World) (e : Ending) (w' : World) : Prop := e = .returned v ∧ ∃ m, w' = w.drewN m
theorem below_drewN (w : World) (m : Nat) : Below w.heap.size w (w.drewN m) := ⟨rfl, rfl, rfl, Nat.le_refl _, fun _ _ => rfl⟩
theorem drewN_add (w : World) (a b : Nat) : (w.drewN a).drewN b = w.drewN (a + b) := by simp [World.drewN, Nat.add_assoc]
/-- what go_quiet asks of a call, out of a contract that tells 'w = w'' -/
theorem quiet_eq {P : Program} {f : FuncId} {args : Array Value} {w : World} {n : Nat} {v : Value}
    (h : Calls P f args (w.drewN n) fun e w' => e = .returned v ∧ w.drewN n = w') : Calls P f args (w.drewN n) fun e w'' => e = .returned v ∧ ∃ m, w'' = w.drewN m :=
  h.mono fun _ _ ⟨he, hm⟩ => ⟨he, n, hm.symm⟩
theorem quiet_q {P : Program} {f : FuncId} {args : Array Value} {w : World} {n : Nat} {v : Value}
    (h : Calls P f args (w.drewN n) (Quiet v (w.drewN n))) : Calls P f args (w.drewN n) fun e w'' => e = .returned v ∧ ∃ m, w'' = w.drewN m :=
  h.mono fun _ _ ⟨he, m, hm⟩ => ⟨he, n + m, by rw [hm, drewN_add]⟩
theorem add_block (a : Addr) (n : Nat) : (a.add n).block = a.block := by unfold Addr.add; split <;> rfl
theorem cell_far {w : World} {g o : Nat} {q : Addr} (h : q.block ≠ g) (v : Value) : (w.setCell ⟨g, o, none⟩ v).cell? q = w.cell? q :=
  World.cell?_of_block (w := w) (Below.heap_setCell w _ v q.block h)
theorem cell_of_two {w : World} {g : Nat} {a b : Value} {t : TypeId} (h : w.heap[g]? = some (.cells #[a, b] t (0, 0))) : w.cell? ⟨g, 0, none⟩ = some a ∧ w.cell? ⟨g, 1, none⟩ = some b ∧ w.frozen? ⟨g, 1, none⟩ = false := by
  refine ⟨cell_of_row w g 0 _ t (0, 0) h, cell_of_row w g 1 _ t (0, 0) h, ?_⟩
  simp [World.frozen?, h]
theorem only_setCell' (w : World) (g o : Nat) (u : Value) : w.grownBy (w.setCell ⟨g, o, none⟩ u) (some g) :=
  ⟨rfl, rfl, rfl, by simp [World.setCell], fun i _ hne => Below.heap_setCell w _ u i (fun e => hne (by rw [e]))⟩
theorem only_drewN {a w : World} {row : Option Nat} (h : a.grownBy w row) (n : Nat) : a.grownBy (w.drewN n) row := ⟨h.os, h.tape, h.output, h.size, h.block⟩
theorem grown_refl (w : World) (row : Option Nat) : w.grownBy w row := ⟨rfl, rfl, rfl, Nat.le_refl _, fun _ _ _ => rfl⟩
theorem grown_trans {a b c : World} {row : Option Nat} (h : a.grownBy b row) (k : b.grownBy c row) : a.grownBy c row :=
  ⟨k.os.trans h.os, k.tape.trans h.tape, k.output.trans h.output, Nat.le_trans h.size k.size, fun i hi hne => (k.block i (Nat.lt_of_lt_of_le hi h.size) hne).trans (h.block i hi hne)⟩
theorem grown_alloc (w : World) (o : Obj) (row : Option Nat) : w.grownBy (w.alloc o) row := World.grownBy_alloc w o row
/-- the cells of a block that was made just before somebody picked -/
theorem cell_kept {w w' : World} {cs : Array Value} {t : TypeId} {g : Nat} (hg : (w.alloc (.cells cs t)).grownBy w' (some g)) (hlt : g < w.heap.size) (i : Nat) : w'.cell? ⟨w.heap.size, i, none⟩ = cs[i]? := by
  have e : w'.heap[w.heap.size]? = (w.alloc (.cells cs t)).heap[w.heap.size]? := hg.block _ (by simp) (by intro h; injection h; omega)
  exact (World.cell?_of_block (w := w.alloc (.cells cs t)) (a := ⟨w.heap.size, i, none⟩) e).trans (World.cell?_alloc_new w cs t i)
theorem kept_cell {a w' : World} {g : Nat} (hg : a.grownBy w' (some g)) (b i : Nat) (hne : b ≠ g) (hlt : b < a.heap.size) : w'.cell? ⟨b, i, none⟩ = a.cell? ⟨b, i, none⟩ :=
  World.cell?_of_block (w := a) (a := ⟨b, i, none⟩) (hg.block b hlt (by intro h; injection h; omega))
theorem kept_two {w w' : World} {o : Obj} {cs : Array Value} {t : TypeId} {g : Nat} (hg : (((w.alloc o).alloc (.cells cs t)).drew).grownBy w' (some g)) (hlt : g < w.heap.size) (i : Nat) : w'.cell? ⟨w.heap.size + 1, i, none⟩ = cs[i]? := by
  rw [kept_cell hg (w.heap.size + 1) i (by omega) (by show _ < ((w.alloc o).alloc _).heap.size; simp)]
  have := World.cell?_alloc_new (w.alloc o) cs t i
  simp
theorem kept_two' {w w' : World} {o : Obj} {cs : Array Value} {t : TypeId} {g : Nat} (hg : ((w.alloc o).alloc (.cells cs t)).grownBy w' (some g)) (hlt : g < w.heap.size) (i : Nat) : w'.cell? ⟨w.heap.size + 1, i, none⟩ = cs[i]? :=
  kept_two (o := o) (t := t) ⟨hg.os, hg.tape, hg.output, hg.size, hg.block⟩ hlt i
theorem kept_one {w w' : World} {cs : Array Value} {t : TypeId} {g : Nat} (hg : ((w.alloc (.cells cs t)).drew).grownBy w' (some g)) (hlt : g < w.heap.size) (i : Nat) : w'.cell? ⟨w.heap.size, i, none⟩ = cs[i]? :=
  cell_kept (w := w) (cs := cs) (t := t) (w' := w') (g := g) ⟨hg.os, hg.tape, hg.output, hg.size, hg.block⟩ hlt i
theorem gs_alloc {a w : World} {row : Option Nat} (h : a.grownBy w row) (o : Obj) : a.grownBy (w.alloc o) row := grown_trans h (grown_alloc w o row)
theorem gs_drew {a w : World} {row : Option Nat} (h : a.grownBy w row) : a.grownBy w.drew row := ⟨h.os, h.tape, h.output, h.size, h.block⟩
theorem kept_two1 {w w' : World} {cs0 cs : Array Value} {t0 t : TypeId} {g : Nat} (hg : ((w.alloc (.cells cs0 t0)).alloc (.cells cs t)).grownBy w' (some g)) (hlt : g < w.heap.size) (i : Nat) : w'.cell? ⟨w.heap.size, i, none⟩ = cs0[i]? := by
  rw [kept_cell hg w.heap.size i (by omega) (by simp; omega)]
  have h1 := World.cell?_alloc_lt (w.alloc (.cells cs0 t0)) (.cells cs t) ⟨w.heap.size, i, none⟩ (by simp)
  rw [h1]; exact World.cell?_alloc_new w cs0 t0 i
end Go.Proofs.Ythniiknhbhoncaa
