/-
  The verifier's own text: ElemRead.
-/
import Derived.Test.YtoiglenodiomhaaElemMath
import Derived.Test.YtoiglenodiomhaaUnMath
import Derived.WalkKit
import Derived.Lib.Hide
namespace Go.Proofs.Ytoiglenodiomhaa
open Go.RowKit
set_option linter.unusedVariables false
/-- what a text stands for, in full: the elements and whether there are any -/
def RdE (s : List UInt8) (L : EL) (ok : Bool) : Prop := (ok = true ∧ elB L = true ∧ elL L = s) ∨ (ok = false ∧ L = [] ∧ ∀ L', elB L' = true → elL L' ≠ s)
def goodE (e : ByteArray × ByteArray) : Prop := (62 : UInt8) ∉ e.1.data.toList ∧ textB e.2.data.toList = true
theorem wc_plain {c : UInt8} (h : wcB c = true) : c ≠ 60 ∧ c ≠ 62 := by
  constructor
  · rintro rfl; revert h; decide
  · rintro rfl; revert h; decide
theorem word_plain {l : List UInt8} (h : wordB l = true) : (60 : UInt8) ∉ l ∧ (62 : UInt8) ∉ l := by
  unfold wordB at h
  simp only [Bool.and_eq_true, List.all_eq_true] at h
  exact ⟨fun m => (wc_plain (h.2 _ m)).1 rfl, fun m => (wc_plain (h.2 _ m)).2 rfl⟩
theorem good_of {e : ByteArray × ByteArray} (h : okE e = true) : goodE e := ⟨(word_plain (okE_of h).1).2, (okE_of h).2⟩
theorem esc_no60 (l : List UInt8) : (60 : UInt8) ∉ escT l := by
  intro m
  unfold escT at m
  rcases h : textB l with _ | _
  · rw [h] at m; simp at m
  · rw [h] at m; exact (escL_no l 60 m).1 rfl
theorem cut_eq {c : UInt8} : ∀ {a a' r r' : List UInt8}, c ∉ a → c ∉ a' → a ++ c :: r = a' ++ c :: r' → a = a' ∧ r = r' := by
  intro a
  induction a with
  | nil =>
    intro a' r r' _ h' e
    cases a' with
    | nil => exact ⟨rfl, by simpa using e⟩
    | cons x a' => simp at e; exact absurd (by simp [e.1]) h'
  | cons y a ih =>
    intro a' r r' h h' e
    cases a' with
    | nil => simp at e; exact absurd (by simp [e.1]) h
    | cons x a' =>
      simp at e
      obtain ⟨h1, h2⟩ := ih (fun m => h (by simp [m])) (fun m => h' (by simp [m])) e.2
      exact ⟨by rw [e.1, h1], h2⟩
theorem pair_ext {e e' : ByteArray × ByteArray} (h : e.1.data.toList = e'.1.data.toList) (h' : e.2.data.toList = e'.2.data.toList) : e = e' := by
  obtain ⟨⟨⟨a⟩⟩, ⟨⟨b⟩⟩⟩ := e
  obtain ⟨⟨⟨a'⟩⟩, ⟨⟨b'⟩⟩⟩ := e'
  simp only at h h'
  rw [h, h']
theorem elT1_pre {e e' : ByteArray × ByteArray} (h : goodE e) (h' : goodE e') {a b : List UInt8} (q : elT1 e ++ a = elT1 e' ++ b) : e = e' ∧ a = b := by
  unfold elT1 at q
  simp only [List.cons_append, List.append_assoc, List.cons.injEq, true_and] at q
  obtain ⟨e1, q⟩ := cut_eq h.1 h'.1 q
  obtain ⟨e2, q⟩ := cut_eq (esc_no60 _) (esc_no60 _) q
  rw [escT_in h.2, escT_in h'.2] at e2
  have e3 := escL_inj e2
  refine ⟨pair_ext e1 e3, ?_⟩
  rw [e1] at q
  simp only [List.cons.injEq, true_and, List.append_cancel_left_eq, List.nil_append] at q
  exact q
theorem elT1_ne (e : ByteArray × ByteArray) : elT1 e ≠ [] := by simp [elT1]
theorem elL_eq_nil {L : EL} (h : elL L = []) : L = [] := by
  cases L with
  | nil => rfl
  | cons e L => rw [elL_cons] at h; exact absurd (List.append_eq_nil_iff.1 h).1 (elT1_ne e)
theorem elL_pre : ∀ (L L' : EL) (r : List UInt8), (∀ e ∈ L, goodE e) → (∀ e ∈ L', goodE e) → elL L' = elL L ++ r → ∃ L2, L' = L ++ L2 ∧ elL L2 = r := by
  intro L
  induction L with
  | nil => intro L' r _ _ h; exact ⟨L', rfl, by simpa [elL_nil] using h⟩
  | cons c L ih =>
    intro L' r h h' q
    rw [elL_cons, List.append_assoc] at q
    cases L' with
    | nil =>
      exact absurd (List.append_eq_nil_iff.1 (q.symm.trans elL_nil)).1 (elT1_ne c)
    | cons d L1 =>
      rw [elL_cons] at q
      obtain ⟨e1, e2⟩ := elT1_pre (h' d (by simp)) (h c (by simp)) q
      subst e1
      obtain ⟨L2, e3, e4⟩ := ih L1 r (fun e m => h e (by simp [m])) (fun e m => h' e (by simp [m])) e2
      exact ⟨L2, by rw [e3]; rfl, e4⟩
theorem elB_good {L : EL} (h : elB L = true) : ∀ e ∈ L, goodE e := fun e m => good_of (elB_mem h e m)
theorem rdE_one {s : List UInt8} {L L' : EL} {ok ok' : Bool} (h : RdE s L ok) (h' : RdE s L' ok') : L = L' ∧ ok = ok' := by
  rcases h with ⟨rfl, a, b⟩ | ⟨rfl, rfl, b⟩
  · rcases h' with ⟨rfl, c, d⟩ | ⟨rfl, rfl, d⟩
    · obtain ⟨L2, e1, e2⟩ := elL_pre L L' [] (elB_good a) (elB_good c) (by rw [b, d]; simp)
      rw [elL_eq_nil e2] at e1
      exact ⟨by rw [e1]; simp, rfl⟩
    · exact absurd b (d L a)
  · rcases h' with ⟨rfl, c, d⟩ | ⟨rfl, rfl, d⟩
    · exact absurd d (b L' c)
    · exact ⟨rfl, rfl⟩
theorem scan_at {s : ByteArray} {p k : Nat} {c : UInt8} {a b : List UInt8} (h : s.data.toList.drop p = a ++ c :: b) (ha : c ∉ a) (hp : p ≤ k) (hk : k ≤ s.size)
    (F : ∀ i (hi : i < s.size), p ≤ i → i < k → s[i] ≠ c) (E : k = s.size ∨ ∃ h : k < s.size, s[k] = c) : k = p + a.length := by
  have hl := congrArg List.length h
  rw [List.length_drop, blen, List.length_append, List.length_cons] at hl
  have hget : ∀ j (hj : p + j < s.size), s[p + j] = (a ++ c :: b)[j]'(by rw [List.length_append, List.length_cons]; omega) := by
    intro j hj
    have h1 : (s.data.toList.drop p)[j]'(by rw [List.length_drop, blen]; omega) = (a ++ c :: b)[j]'(by rw [List.length_append, List.length_cons]; omega) := by simp only [h]
    rw [← h1, List.getElem_drop]; rfl
  rcases Nat.lt_trichotomy k (p + a.length) with hlt | heq | hgt
  · exfalso
    rcases E with E | ⟨hk2, E⟩
    · omega
    · obtain ⟨j, rfl⟩ : ∃ j, k = p + j := ⟨k - p, by omega⟩
      rw [hget j hk2, List.getElem_append_left (by omega)] at E
      exact ha (by rw [← E]; exact List.getElem_mem _)
  · exact heq
  · exfalso
    have := hget a.length (by omega)
    rw [List.getElem_append_right (by omega)] at this
    simp at this
    exact F (p + a.length) (by omega) (by omega) hgt this
theorem ext_list (s : ByteArray) (a b : Nat) : (s.extract a b).data.toList = (s.data.toList.drop a).take (b - a) := by
  simp [List.extract_eq_take_drop]
theorem drop_next {l a b : List UInt8} {p : Nat} (h : l.drop p = a ++ b) : l.drop (p + a.length) = b := by
  rw [← List.drop_drop, h, List.drop_left]
theorem take_glue (l : List UInt8) {a b : Nat} (h : a ≤ b) : l.take b = l.take a ++ (l.drop a).take (b - a) := by
  obtain ⟨n, rfl⟩ : ∃ n, b = a + n := ⟨b - a, by omega⟩
  rw [List.take_add, Nat.add_sub_cancel_left]
/-- what three scans found -/
structure Scan (s : ByteArray) (k nm en la : Nat) : Prop where
  n1 : k + 1 ≤ nm
  n2 : nm ≤ s.size
  n3 : ∀ i (hi : i < s.size), k + 1 ≤ i → i < nm → s[i] ≠ 62
  n4 : nm = s.size ∨ ∃ h : nm < s.size, s[nm] = 62
  e1 : nm ≤ en
  e2 : en ≤ s.size
  e3 : ∀ i (hi : i < s.size), nm ≤ i → i < en → s[i] ≠ 60
  e4 : en = s.size ∨ ∃ h : en < s.size, s[en] = 60
  l1 : en ≤ la
  l2 : la ≤ s.size
  l3 : ∀ i (hi : i < s.size), en ≤ i → i < la → s[i] ≠ 62
  l4 : la = s.size ∨ ∃ h : la < s.size, s[la] = 62
/-- whoever is written so goes on as the scans say -/
theorem rd_must {s : ByteArray} {k nm en la : Nat} {out : EL} (hlt : k < s.size) (sc : Scan s k nm en la) (hout : elL out = s.data.toList.take k) (hg : ∀ e ∈ out, goodE e) {L' : EL} (hv : elB L' = true) (he : elL L' = s.data.toList) :
    la < s.size ∧ s[k] = 60 ∧ out.length < 8 ∧ (∃ t, unT (s.extract (nm + 1) en).data.toList = (t, true)) ∧ s.extract en (la + 1) = ⟨#[60, 47]⟩ ++ s.extract (k + 1) nm ++ ⟨#[62]⟩ := by
  obtain ⟨L2, e1, e2⟩ := elL_pre out L' (s.data.toList.drop k) hg (elB_good hv) (by rw [hout, he, List.take_append_drop])
  have hdl : (s.data.toList.drop k).length = s.size - k := by rw [List.length_drop, blen]
  cases L2 with
  | nil => rw [elL_nil] at e2; rw [← e2] at hdl; simp at hdl; omega
  | cons e L3 =>
    have hge : goodE e := elB_good hv e (by rw [e1]; simp)
    have hok : okE e = true := elB_mem hv e (by rw [e1]; simp)
    rw [elL_cons] at e2
    unfold elT1 at e2
    simp only [List.cons_append, List.append_assoc, List.nil_append] at e2
    have d0 : s.data.toList.drop k = [60] ++ (e.1.data.toList ++ 62 :: (escT e.2.data.toList ++ 60 :: 47 :: (e.1.data.toList ++ 62 :: elL L3))) := e2.symm
    have hk60 : s[k] = 60 := by
      have h1 := List.drop_eq_getElem_cons (l := s.data.toList) (i := k) (by rw [blen]; exact hlt)
      rw [d0] at h1
      exact (List.cons.inj h1).1.symm
    have d1 := drop_next d0
    rw [show k + ([60] : List UInt8).length = k + 1 from rfl] at d1
    have w62 := (word_plain (okE_of hok).1).2
    have p1 := scan_at d1 w62 sc.n1 sc.n2 sc.n3 sc.n4
    have d2 := drop_next d1
    rw [← p1] at d2
    have n60 : (60 : UInt8) ∉ (62 :: escT e.2.data.toList) := by
      intro m
      rcases List.mem_cons.1 m with m | m
      · exact absurd m (by decide)
      · exact esc_no60 _ m
    have d2' : s.data.toList.drop nm = (62 :: escT e.2.data.toList) ++ 60 :: (47 :: (e.1.data.toList ++ 62 :: elL L3)) := d2
    have p2 := scan_at d2' n60 sc.e1 sc.e2 sc.e3 sc.e4
    have d3 := drop_next d2'
    rw [← p2] at d3
    have n62 : (62 : UInt8) ∉ (60 :: 47 :: e.1.data.toList) := by
      intro m
      rcases List.mem_cons.1 m with m | m
      · exact absurd m (by decide)
      · rcases List.mem_cons.1 m with m | m
        · exact absurd m (by decide)
        · exact w62 m
    have d3' : s.data.toList.drop en = (60 :: 47 :: e.1.data.toList) ++ 62 :: elL L3 := d3
    have p3 := scan_at d3' n62 sc.l1 sc.l2 sc.l3 sc.l4
    have d4 := drop_next d3'
    rw [← p3] at d4
    have hla : la < s.size := by
      have := congrArg List.length d4
      rw [List.length_drop, blen, List.length_cons] at this; omega
    have x1 : (s.extract (k + 1) nm).data.toList = e.1.data.toList := by
      rw [ext_list, d1, p1, Nat.add_sub_cancel_left, List.take_left]
    have d5 : s.data.toList.drop (nm + 1) = escT e.2.data.toList ++ 60 :: (47 :: (e.1.data.toList ++ 62 :: elL L3)) := by
      have := drop_next (l := s.data.toList) (p := nm) (a := [62]) (b := escT e.2.data.toList ++ 60 :: (47 :: (e.1.data.toList ++ 62 :: elL L3))) d2
      exact this
    have x2 : (s.extract (nm + 1) en).data.toList = escL e.2.data.toList := by
      rw [ext_list, d5, p2, List.length_cons]
      have : nm + ((escT e.2.data.toList).length + 1) - (nm + 1) = (escT e.2.data.toList).length := by omega
      rw [this, List.take_left, escT_in hge.2]
    have x3 : (s.extract en (la + 1)).data.toList = 60 :: 47 :: (e.1.data.toList ++ [62]) := by
      have d6 : s.data.toList.drop en = (60 :: 47 :: (e.1.data.toList ++ [62])) ++ elL L3 := by rw [d3']; simp
      rw [ext_list, d6]
      have : la + 1 - en = (60 :: 47 :: (e.1.data.toList ++ [62])).length := by rw [p3]; simp; omega
      rw [this, List.take_left]
    refine ⟨hla, hk60, ?_, ⟨_, un_yes hge.2 x2.symm⟩, ?_⟩
    · have := elB_len hv; rw [e1] at this; simp at this; omega
    · apply ByteArray.ext; apply Array.toList_inj.1
      rw [x3]
      have : (⟨#[60, 47]⟩ ++ s.extract (k + 1) nm ++ ⟨#[62]⟩ : ByteArray).data.toList = 60 :: 47 :: ((s.extract (k + 1) nm).data.toList ++ [62]) := by simp
      rw [this, x1]
/-- what was read is written so -/
theorem rd_step {s : ByteArray} {k nm en la : Nat} {out : EL} {t : List UInt8} (hlt : k < s.size) (sc : Scan s k nm en la) (hout : elL out = s.data.toList.take k) (hg : ∀ e ∈ out, goodE e)
    (hla : la < s.size) (h60 : s[k] = 60) (hen : nm + 1 ≤ en) (hu : unT (s.extract (nm + 1) en).data.toList = (t, true)) (hx : s.extract en (la + 1) = ⟨#[60, 47]⟩ ++ s.extract (k + 1) nm ++ ⟨#[62]⟩) :
    elL (out ++ [(s.extract (k + 1) nm, bs t)]) = s.data.toList.take (la + 1) ∧ ∀ e ∈ out ++ [(s.extract (k + 1) nm, bs t)], goodE e := by
  have s1 := sc.n1
  have s2 := sc.n2
  have s3 := sc.e1
  have s4 := sc.l1
  have s5 := sc.e2
  rcases unT_or (s.extract (nm + 1) en).data.toList with ⟨t', ht, he, hu'⟩ | ⟨_, hu'⟩
  · rw [hu] at hu'
    have : t = t' := by cases hu'; rfl
    subst this
    have hnm : s[nm]'(by omega) = 62 := by
      rcases sc.n4 with q | ⟨_, q⟩
      · omega
      · exact q
    constructor
    · rw [elL_snoc, hout]
      have g1 := take_glue s.data.toList (a := k) (b := k + 1) (by omega)
      have g2 := take_glue s.data.toList (a := k + 1) (b := nm) s1
      have g3 := take_glue s.data.toList (a := nm) (b := nm + 1) (by omega)
      have g4 := take_glue s.data.toList (a := nm + 1) (b := en) hen
      have g5 := take_glue s.data.toList (a := en) (b := la + 1) (by omega)
      have one : ∀ p (hp : p < s.size), (s.data.toList.drop p).take (p + 1 - p) = [s[p]] := by
        intro p hp
        rw [List.drop_eq_getElem_cons (by rw [blen]; exact hp), Nat.add_sub_cancel_left]; rfl
      rw [one k hlt, h60] at g1
      rw [one nm (by omega), hnm] at g3
      rw [← ext_list] at g2 g4 g5
      rw [g5, g4, g3, g2, g1, ← he, hx]
      have : (⟨#[60, 47]⟩ ++ s.extract (k + 1) nm ++ ⟨#[62]⟩ : ByteArray).data.toList = 60 :: 47 :: ((s.extract (k + 1) nm).data.toList ++ [62]) := by simp
      rw [this]
      unfold elT1
      simp only [bs_data]
      rw [escT_in ht]
      simp only [List.append_assoc, List.cons_append, List.nil_append]
    · intro e m
      rcases List.mem_append.1 m with m | m
      · exact hg e m
      · have : e = (s.extract (k + 1) nm, bs t) := by simpa using m
        subst this
        refine ⟨?_, ht⟩
        intro m2
        obtain ⟨j, hj, hj2⟩ := List.getElem_of_mem m2
        have hj3 : j < nm - (k + 1) := by
          have := hj; rw [blen, ByteArray.size_extract] at this; omega
        have : s[k + 1 + j]'(by omega) = 62 := by
          rw [← hj2]
          simp only [ext_list, List.getElem_take, List.getElem_drop]; rfl
        exact sc.n3 (k + 1 + j) (by omega) (by omega) (by omega) this
  · rw [hu] at hu'; cases hu'
theorem rdE_no {s : List UInt8} (h : ∀ L', elB L' = true → elL L' ≠ s) : RdE s [] false := .inr ⟨rfl, rfl, h⟩
theorem rdE_end {s : List UInt8} {out : EL} (h : elL out = s) (hg : ∀ e ∈ out, goodE e) : (elB out = true → RdE s out true) ∧ (elB out = false → RdE s [] false) := by
  refine ⟨fun q => .inl ⟨rfl, q, h⟩, fun q => rdE_no fun L' hv he => ?_⟩
  obtain ⟨L2, e1, e2⟩ := elL_pre out L' [] hg (elB_good hv) (by rw [h, he]; simp)
  rw [elL_eq_nil e2, List.append_nil] at e1
  subst e1; rw [q] at hv; cases hv
end Go.Proofs.Ytoiglenodiomhaa
