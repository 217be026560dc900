/-
  The verifier's own text: MarkMath.
-/
import Derived.Test.YtfajfomiadcffaaPlain
import Derived.WalkKit
import Derived.Lib.Hide
namespace Go.Proofs.Ytfajfomiadcffaa
open Go.RowKit
set_option linter.unusedVariables false
/-- the digit of a value below 36 -/
def mdig (d : Nat) : UInt8 := if d < 10 then UInt8.ofNat (48 + d) else UInt8.ofNat (87 + d)
/-- the value of a digit, -1 for other bytes -/
def mval (c : UInt8) : Int := if digI c.toNat then (c.toNat : Int) - 48 else if smlI c.toNat then (c.toNat : Int) - 87 else -1
/-- digits of n with fuel, nothing for 0 -/
def mkF : Nat → Nat → List UInt8
  | 0, _ => []
  | f + 1, n => if n = 0 then [] else mkF f (n / 36) ++ [mdig (n % 36)]
def mk (n : Nat) : List UInt8 := mkF n n
theorem mkF_more : ∀ (f g n : Nat), n ≤ f → n ≤ g → mkF f n = mkF g n := by
  intro f
  induction f with
  | zero =>
    intro g n h _
    have : n = 0 := by omega
    subst this
    cases g <;> simp [mkF]
  | succ f ih =>
    intro g n h h'
    cases g with
    | zero => have : n = 0 := by omega
              subst this; simp [mkF]
    | succ g =>
      by_cases e : n = 0
      · simp [mkF, e]
      · simp only [mkF, e, if_false]
        rw [ih g (n / 36) (by omega) (by omega)]
theorem mk_zero : mk 0 = [] := rfl
theorem mk_pos {n : Nat} (h : 0 < n) : mk n = mk (n / 36) ++ [mdig (n % 36)] := by
  unfold mk
  obtain ⟨m, rfl⟩ : ∃ m, n = m + 1 := ⟨n - 1, by omega⟩
  rw [mkF, if_neg (by omega), mkF_more m ((m + 1) / 36) _ (by omega) (by omega)]
/-- the mark of a number -/
def markL (n : Nat) : List UInt8 := mk (n / 36) ++ [mdig (n % 36)]
def markT (n : Int) : List UInt8 := if 0 ≤ n ∧ n ≤ 1000000000 then markL n.toNat else []
theorem markT_in {n : Nat} (h : n ≤ 1000000000) : markT n = markL n := by unfold markT; rw [if_pos ⟨by omega, by omega⟩]; rfl
theorem markT_out {n : Int} (h : n < 0 ∨ 1000000000 < n) : markT n = [] := by unfold markT; rw [if_neg (by omega)]
theorem markL_pos {n : Nat} (h : 0 < n) : markL n = mk n := (mk_pos h).symm
theorem markL_ne (n : Nat) : markL n ≠ [] := by unfold markL; simp
theorem mdig_val : ∀ d : Fin 36, mval (mdig d) = d := by decide +kernel
theorem mval_mdig {d : Nat} (h : d < 36) : mval (mdig d) = d := mdig_val ⟨d, h⟩
theorem mdig_of_all : ∀ c : Fin 256, 0 ≤ mval (UInt8.ofNat c) → mdig (mval (UInt8.ofNat c)).toNat = UInt8.ofNat c := by decide +kernel
theorem mdig_mval {c : UInt8} (h : 0 ≤ mval c) : mdig (mval c).toNat = c := by
  have := mdig_of_all ⟨c.toNat, c.toNat_lt⟩
  simp only [UInt8.ofNat_toNat] at this
  exact this h
theorem mval_lt_all : ∀ c : Fin 256, mval (UInt8.ofNat c) < 36 ∧ -1 ≤ mval (UInt8.ofNat c) := by decide +kernel
theorem mval_lt (c : UInt8) : mval c < 36 := by
  have := (mval_lt_all ⟨c.toNat, c.toNat_lt⟩).1
  simpa only [UInt8.ofNat_toNat] using this
theorem mval_ge (c : UInt8) : -1 ≤ mval c := by
  have := (mval_lt_all ⟨c.toNat, c.toNat_lt⟩).2
  simpa only [UInt8.ofNat_toNat] using this
theorem mdig_zero_all : ∀ d : Fin 36, mdig d = 48 → (d : Nat) = 0 := by decide +kernel
theorem mdig_zero {d : Nat} (h : d < 36) (e : mdig d = 48) : d = 0 := mdig_zero_all ⟨d, h⟩ e
/-- the number that digits stand for (values of other bytes count as 0) -/
def val (l : List UInt8) : Nat := l.foldl (fun a c => a * 36 + (mval c).toNat) 0
theorem val_snoc (l : List UInt8) (c : UInt8) : val (l ++ [c]) = val l * 36 + (mval c).toNat := by simp [val, List.foldl_append]
theorem val_go (l : List UInt8) : ∀ a b : Nat, a ≤ b → a ≤ l.foldl (fun a c => a * 36 + (mval c).toNat) b := by
  induction l with
  | nil => intro a b h; simpa using h
  | cons c l ih => intro a b h; simp only [List.foldl_cons]; exact ih _ _ (by omega)
theorem val_take_le (l : List UInt8) (k : Nat) : val (l.take k) ≤ val l := by
  have e : val l = (l.drop k).foldl (fun a c => a * 36 + (mval c).toNat) (val (l.take k)) := by
    unfold val; rw [← List.foldl_append, List.take_append_drop]
  rw [e]; exact val_go _ _ _ (Nat.le_refl _)
def digOk (c : UInt8) : Bool := decide (0 ≤ mval c)
/-- a text that is written as marks are -/
def canon (l : List UInt8) : Bool := l.all digOk && (decide (l.length = 1) || (decide (0 < l.length) && decide (l.headD 0 ≠ 48)))
def readM (l : List UInt8) : Int := if canon l = true ∧ val l ≤ 1000000000 then val l else -1
theorem mk_all : ∀ (f n : Nat), n ≤ f → (mk n).all digOk = true := by
  intro f
  induction f with
  | zero => intro n h; have : n = 0 := by omega
            subst this; rfl
  | succ f ih =>
    intro n h
    by_cases e : n = 0
    · subst e; rfl
    · rw [mk_pos (by omega), List.all_append, ih _ (by omega)]
      simp [digOk, mval_mdig (show n % 36 < 36 by omega)]; omega
theorem markL_all (n : Nat) : (markL n).all digOk = true := by
  unfold markL; rw [List.all_append, mk_all _ _ (Nat.le_refl _)]; simp [digOk, mval_mdig (show n % 36 < 36 by omega)]; omega
theorem mk_val : ∀ (f n : Nat), n ≤ f → val (mk n) = n := by
  intro f
  induction f with
  | zero => intro n h; have : n = 0 := by omega
            subst this; rfl
  | succ f ih =>
    intro n h
    by_cases e : n = 0
    · subst e; rfl
    · rw [mk_pos (by omega), val_snoc, ih _ (by omega), mval_mdig (show n % 36 < 36 by omega)]; omega
theorem markL_val (n : Nat) : val (markL n) = n := by
  unfold markL; rw [val_snoc, mk_val _ _ (Nat.le_refl _), mval_mdig (show n % 36 < 36 by omega)]; omega
theorem head_append (l m : List UInt8) (h : l ≠ []) : (l ++ m).headD 0 = l.headD 0 := by
  cases l with
  | nil => exact absurd rfl h
  | cons a l => rfl
theorem mk_head : ∀ (f n : Nat), n ≤ f → 0 < n → mk n ≠ [] ∧ (mk n).headD 0 ≠ 48 := by
  intro f
  induction f with
  | zero => intro n h h'; omega
  | succ f ih =>
    intro n h h'
    rw [mk_pos h']
    refine ⟨by simp, ?_⟩
    by_cases e : n / 36 = 0
    · rw [e, mk_zero]
      simp only [List.nil_append]
      intro h48
      have := mdig_zero (show n % 36 < 36 by omega) h48
      omega
    · have := ih (n / 36) (by omega) (by omega)
      rw [head_append _ _ this.1]; exact this.2
theorem markL_canon (n : Nat) : canon (markL n) = true := by
  unfold canon
  rw [markL_all]
  by_cases e : n = 0
  · subst e; rfl
  · rw [markL_pos (by omega)]
    have := mk_head n n (Nat.le_refl _) (by omega)
    have hl : 0 < (mk n).length := List.length_pos_iff.2 this.1
    simp only [Bool.true_and, Bool.or_eq_true, Bool.and_eq_true, decide_eq_true_eq]
    exact .inr ⟨hl, this.2⟩
/-- reading a mark gives the number -/
theorem readM_markL {n : Nat} (h : n ≤ 1000000000) : readM (markL n) = n := by
  unfold readM; rw [if_pos ⟨markL_canon n, by rw [markL_val]; exact h⟩, markL_val]
theorem val_pos : ∀ (l : List UInt8), l.all digOk = true → l ≠ [] → l.headD 0 ≠ 48 → 0 < val l := by
  intro l ha hn h0
  cases l with
  | nil => exact absurd rfl hn
  | cons c l =>
    simp only [List.headD_cons] at h0
    simp only [List.all_cons, Bool.and_eq_true] at ha
    have hc : 0 ≤ mval c := of_decide_eq_true ha.1
    have : (mval c).toNat ≠ 0 := by
      intro e
      apply h0
      rw [← mdig_mval hc, e]; rfl
    unfold val
    simp only [List.foldl_cons]
    exact Nat.lt_of_lt_of_le (by omega) (val_go l _ _ (Nat.le_refl _))
theorem mk_of_canon : ∀ (m : Nat) (l : List UInt8), l.length ≤ m → l.all digOk = true → l ≠ [] → l.headD 0 ≠ 48 → mk (val l) = l := by
  intro m
  induction m with
  | zero => intro l h _ hn _; exact absurd (List.length_eq_zero_iff.1 (by omega)) hn
  | succ m ih =>
    intro l h ha hn h0
    have hp := val_pos l ha hn h0
    obtain ⟨l', c, rfl⟩ : ∃ l' c, l = l' ++ [c] := ⟨l.dropLast, l.getLast hn, (List.dropLast_concat_getLast hn).symm⟩
    rw [List.all_append, Bool.and_eq_true] at ha
    have hc : 0 ≤ mval c := by have := ha.2; simp [digOk] at this; exact this
    have hlt := mval_lt c
    rw [mk_pos hp, val_snoc]
    have e1 : (val l' * 36 + (mval c).toNat) / 36 = val l' := by omega
    have e2 : (val l' * 36 + (mval c).toNat) % 36 = (mval c).toNat := by omega
    rw [e1, e2, mdig_mval hc]
    by_cases e : l' = []
    · subst e; rfl
    · rw [ih l' (by simp at h; omega) ha.1 e (by rw [head_append _ _ e] at h0; exact h0)]
theorem markL_of_canon {l : List UInt8} (h : canon l = true) : markL (val l) = l := by
  unfold canon at h
  simp only [Bool.and_eq_true, Bool.or_eq_true, decide_eq_true_eq] at h
  obtain ⟨ha, h⟩ := h
  by_cases hz : l.headD 0 = 48
  · rcases h with h | h
    · match l, h with
      | [c], _ =>
        simp only [List.headD_cons] at hz
        subst hz; decide
    · exact absurd hz h.2
  · have hn : l ≠ [] := by
      rcases h with h | h
      · intro e; subst e; simp at h
      · intro e; subst e; simp at h
    rw [markL_pos (val_pos l ha hn hz)]
    exact mk_of_canon l.length l (Nat.le_refl _) ha hn hz
theorem mk_len : ∀ (f n : Nat), n < 36 ^ f → (mk n).length ≤ f := by
  intro f
  induction f with
  | zero => intro n h; have : n = 0 := by simpa using h
            subst this; simp [mk_zero]
  | succ f ih =>
    intro n h
    by_cases e : n = 0
    · subst e; simp [mk_zero]
    · rw [mk_pos (by omega)]
      have : n / 36 < 36 ^ f := by rw [Nat.pow_succ] at h; omega
      have := ih _ this
      simp; omega
theorem markL_len {n : Nat} (h : n ≤ 1000000000) : (markL n).length ≤ 6 := by
  unfold markL
  have := mk_len 5 (n / 36) (by simp; omega)
  simp; omega
theorem canon_ne {l : List UInt8} (h : canon l = true) : l ≠ [] := by intro e; subst e; simp [canon] at h
/-- a mark with a zero before it is none -/
theorem readM_zero {l : List UInt8} (h : l ≠ []) : readM (48 :: l) = -1 := by
  unfold readM
  rw [if_neg]
  intro hh
  have := hh.1
  unfold canon at this
  simp at this
  exact h this.2
theorem readM_lo (l : List UInt8) : readM l = -1 ∨ (0 ≤ readM l ∧ readM l ≤ 1000000000 ∧ canon l = true ∧ readM l = val l) := by
  unfold readM
  by_cases h : canon l = true ∧ val l ≤ 1000000000
  · rw [if_pos h]; exact .inr ⟨by omega, by omega, h.1, rfl⟩
  · rw [if_neg h]; exact .inl rfl
theorem markT_len (n : Int) : (markT n).length ≤ 6 := by
  by_cases h : n < 0 ∨ 1000000000 < n
  · rw [markT_out h]; simp
  · obtain ⟨m, rfl⟩ : ∃ m : Nat, n = m := ⟨n.toNat, by omega⟩
    rw [markT_in (by omega)]; exact markL_len (by omega)
theorem mval_dig {c : UInt8} (h : digI c.toNat = true) : mval c = (c.toNat : Int) - 48 := by simp [mval, h]
theorem mval_sml {c : UInt8} (h : digI c.toNat = false) (h' : smlI c.toNat = true) : mval c = (c.toNat : Int) - 87 := by simp [mval, h, h']
theorem mval_no {c : UInt8} (h : digI c.toNat = false) (h' : smlI c.toNat = false) : mval c = -1 := by simp [mval, h, h']
theorem readM_of {l : List UInt8} (h : ¬ (canon l = true ∧ val l ≤ 1000000000)) : readM l = -1 := by unfold readM; rw [if_neg h]
theorem readM_nil : readM [] = -1 := rfl
theorem readM_lead {l : List UInt8} (h : 1 < l.length) (h0 : l.headD 0 = 48) : readM l = -1 := by
  apply readM_of; intro hh; have := hh.1; unfold canon at this; rw [h0] at this; simp at this; omega
theorem readM_badc {s : ByteArray} {k : Nat} (h : k < s.size) (b : mval s[k] < 0) : readM s.data.toList = -1 := by
  apply readM_of; intro hh; have := hh.1; unfold canon at this
  rw [all_bad (p := digOk) h (by simp [digOk]; omega)] at this; simp at this
theorem val_take_succ (s : ByteArray) (k : Nat) (h : k < s.size) : val (s.data.toList.take (k + 1)) = val (s.data.toList.take k) * 36 + (mval s[k]).toNat := by
  rw [btake s k h, val_snoc]
theorem readM_big {s : ByteArray} {k : Nat} (h : k < s.size) (b : 1000000000 < val (s.data.toList.take k) * 36 + (mval s[k]).toNat) : readM s.data.toList = -1 := by
  apply readM_of; intro hh
  have := val_take_le s.data.toList (k + 1)
  rw [val_take_succ s k h] at this
  omega
theorem readM_good {s : ByteArray} {k n : Nat} (h : s.size ≤ k) (hn : val (s.data.toList.take k) = n) (ha : (s.data.toList.take k).all digOk = true) (hv : n ≤ 1000000000) (h1 : 1 ≤ s.size)
    (h0 : s.size = 1 ∨ s[0] ≠ 48) : readM s.data.toList = n := by
  rw [bfull s k h] at hn ha
  unfold readM
  rw [if_pos ⟨by
    unfold canon
    rw [ha, blen, bhead s h1]
    simp only [Bool.true_and, Bool.or_eq_true, Bool.and_eq_true, decide_eq_true_eq]
    rcases h0 with h0 | h0
    · exact .inl h0
    · exact .inr ⟨by omega, h0⟩, by omega⟩, hn]
/-- what is known after k bytes -/
def PreM (l : List UInt8) (k n : Nat) : Prop := val (l.take k) = n ∧ (l.take k).all digOk = true
theorem preM_next {s : ByteArray} {k n : Nat} (h : k < s.size) (p : PreM s.data.toList k n) (b : 0 ≤ mval s[k]) : PreM s.data.toList (k + 1) (n * 36 + (mval s[k]).toNat) :=
  ⟨by rw [val_take_succ s k h, p.1], all_snoc h p.2 (by simp [digOk]; omega)⟩
theorem byte48 {c : UInt8} (h : ((c.toNat : Int) == 48) = false) : c ≠ 48 := by rintro rfl; simp at h
theorem byte48' {c : UInt8} (h : ((c.toNat : Int) == 48) = true) : c = 48 := by
  have : (c.toNat : Int) = 48 := by simpa using h
  apply UInt8.toNat_inj.1; show c.toNat = 48; omega
theorem val_lt : ∀ (m : Nat) (l : List UInt8), l.length ≤ m → val l < 36 ^ m := by
  intro m
  induction m with
  | zero => intro l h; have : l = [] := List.length_eq_zero_iff.1 (by omega)
            subst this; decide
  | succ m ih =>
    intro l h
    by_cases e : l = []
    · subst e; exact Nat.pos_of_ne_zero (by simp)
    · obtain ⟨l', c, rfl⟩ : ∃ l' c, l = l' ++ [c] := ⟨l.dropLast, l.getLast e, (List.dropLast_concat_getLast e).symm⟩
      have := ih l' (by simp at h; omega)
      have := mval_lt c
      rw [val_snoc, Nat.pow_succ]; omega
theorem preM_bd {l : List UInt8} {k n : Nat} (p : PreM l k n) (h : k ≤ 7) : n ≤ 78364164096 := by
  have := val_lt 7 (l.take k) (by have := List.length_take_le k l; omega)
  rw [p.1] at this; simp at this; omega
theorem preM_bd6 {l : List UInt8} {k n : Nat} (p : PreM l k n) (h : k ≤ 6) : n ≤ 2176782336 := by
  have := val_lt 6 (l.take k) (by have := List.length_take_le k l; omega)
  rw [p.1] at this; simp at this; omega
theorem readM_eq {s : ByteArray} {n : Nat} (h : bs (markT n) = s) (hne : s.size ≠ 0) : readM s.data.toList = n := by
  have e : markT n = s.data.toList := bs_inj (by rw [h]; rfl)
  have hle : (n : Int) ≤ 1000000000 := by
    rcases Int.lt_or_le 1000000000 (n : Int) with hb | hb
    · rw [markT_out (.inr hb)] at e
      have := blen s; rw [← e] at this; simp at this; omega
    · exact hb
  rw [markT_in (by omega)] at e
  rw [← e, readM_markL (by omega)]
theorem readM_neq {s : ByteArray} {k n : Nat} (p : PreM s.data.toList k n) (hk7 : s.size ≤ k ∨ (7 ≤ k ∧ k ≤ s.size)) (h : ¬ bs (markT n) = s) : readM s.data.toList = -1 := by
  apply readM_of
  rintro ⟨hc, hv⟩
  have e := markL_of_canon hc
  have hl := markL_len hv
  rw [e, blen] at hl
  rcases hk7 with hk | hk
  · have hn := p.1
    rw [bfull s k hk] at hn
    apply h
    rw [← hn, markT_in hv, e]; rfl
  · omega
end Go.Proofs.Ytfajfomiadcffaa
