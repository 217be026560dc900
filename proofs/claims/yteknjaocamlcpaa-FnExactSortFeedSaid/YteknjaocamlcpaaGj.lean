/-
  The verifier's own text: ScanI RdEI.
-/
import Derived.Test.YteknjaocamlcpaaRows
import Derived.Test.YteknjaocamlcpaaGi
import Derived.Test.YteknjaocamlcpaaGc
import Derived.Test.YteknjaocamlcpaaGd
import Derived.WalkKit
import Derived.ProofKit
import Derived.Below
import Derived.Lib.Hide
import Derived.Outline
import Derived.BigQuiet
import Derived.Deep.QuietTactic
import Derived.Deep.Draws
import Derived.Laws.OwnMore
import Derived.Laws.Rows
import Derived.WalkSpells
import Derived.Deep.RegionWith
namespace Go.Proofs.Yteknjaocamlcpaa
open Go.RowKit
set_option linter.unusedVariables false
def GotOpen (s : ByteArray) (w : World) (e : Ending) (w' : World) : Prop :=
  ((∃ nm : Nat, 1 ≤ nm ∧ nm < s.size ∧ s.data.toList.take (nm + 1) = 60 :: ((s.extract 1 nm).data.toList ++ [62]) ∧ wordB (s.extract 1 nm).data.toList = true ∧ e = .returned (.tuple #[.string (s.extract 1 nm), .int .i64 ((nm + 1 : Nat) : Int)])) ∨
   (e = .returned (.tuple #[.string ⟨#[]⟩, .int .i64 0]) ∧ ∀ n r, wordB n = true → s.data.toList ≠ 60 :: (n ++ 62 :: r))) ∧ w = w'
theorem open_place {s : ByteArray} {k : Nat} {n r : List UInt8} (hn : wordB n = true) (e : s.data.toList = 60 :: (n ++ 62 :: r)) (h : PlaceOf s 1 62 k) : k = 1 + n.length ∧ k < s.size ∧ (s.extract 1 k).data.toList = n := by
  have d : s.data.toList.drop 1 = n ++ 62 :: r := by rw [e]; rfl
  have p := elx_at d (word_plain hn).2 h.1 h.2.1 h.2.2.1 h.2.2.2
  have hl := congrArg List.length e
  rw [blen] at hl; simp at hl
  refine ⟨p, by omega, ?_⟩
  rw [elx_list, d, p, Nat.add_sub_cancel_left, List.take_left]
theorem open_list {s : ByteArray} {k : Nat} (h0 : s.data.toList.take 1 = [60]) (h : PlaceOf s 1 62 k) (hk : k < s.size) : s.data.toList.take (k + 1) = 60 :: ((s.extract 1 k).data.toList ++ [62]) := by
  have hc : s[k] = 62 := by
    rcases h.2.2.2 with q | ⟨_, q⟩
    · omega
    · exact q
  rw [btake s k hk, hc, take_glue s.data.toList h.1, ← elx_list, h0]; simp
set_option maxRecDepth 100000 in
set_option maxHeartbeats 1000000 in
theorem scanOpen_any (s : ByteArray) (w : World) (hs : s.size ≤ 100000000) :
    Calls Try.prog 101 #[.string s] w (GotOpen s w) := by
  have hm : s.size ≤ maxLen := by unfold maxLen; omega
  by_cases h0 : s.data.toList.take 1 = [60]
  · have hb : Hid (decide (s.data.toList.take (⟨#[60]⟩ : ByteArray).size = (⟨#[60]⟩ : ByteArray).data.toList) = true) := Lib.hid (decide_eq_true h0)
    have hpos : 1 ≤ s.size := by
      have := congrArg List.length h0
      rw [List.length_take, blen] at this; simp at this; omega
    have h0 := Lib.hid h0
    go_enter Try.func101, Try.ntmps101
    go_wp2_with (go_at_call 104; refine (beg_any s _ _ hm (by decide)).mono ?_; rintro e w' ⟨rfl, rfl⟩; rw [hb.out])
    refine (place_any s 1 62 _ hm hpos).mono ?_
    rintro e w' ⟨k, hk, rfl, rfl⟩
    have hk1 := hk.1
    have hk2 := hk.2.1
    have HK := Lib.hid hk
    clear hk
    by_cases hlt : k < s.size
    · have x1 : ((k : Int) == (s.size : Int)) = false := by rw [beq_eq_false_iff_ne]; omega
      have x2 : ¬ ((k : Int) = (s.size : Int)) := by omega
      have hx : (s.extract 1 k).size ≤ maxLen := by rw [ByteArray.size_extract]; omega
      rcases hw : wordB (s.extract 1 k).data.toList with _ | _
      · have HW := Lib.hid hw
        have HR : Hid (∀ n r, wordB n = true → s.data.toList ≠ 60 :: (n ++ 62 :: r)) := Lib.hid (fun n r hn e => by
          rw [(open_place hn e HK.out).2.2, hn] at hw; cases hw)
        clear hw
        go_wp2_with (go_at_call 45; refine (word_any _ _ hx).mono ?_; rintro e w' ⟨rfl, rfl⟩; rw [HW.out])
        go_ret2
        exact ⟨.inr ⟨rfl, HR.out⟩, rfl⟩
      · have HW := Lib.hid hw
        clear hw
        go_wp2_with (go_at_call 45; refine (word_any _ _ hx).mono ?_; rintro e w' ⟨rfl, rfl⟩; rw [HW.out])
        go_ret2
        exact ⟨.inl ⟨k, hk1, hlt, open_list h0.out HK.out hlt, HW.out, rfl⟩, rfl⟩
    · have x1 : ((k : Int) == (s.size : Int)) = true := by rw [beq_iff_eq]; omega
      have x2 : ((k : Int) = (s.size : Int)) := by omega
      have HR : Hid (∀ n r, wordB n = true → s.data.toList ≠ 60 :: (n ++ 62 :: r)) := Lib.hid (fun n r hn e => hlt (open_place hn e HK.out).2.1)
      go_wp2
      go_ret2
      exact ⟨.inr ⟨rfl, HR.out⟩, rfl⟩
  · have hb : Hid (decide (s.data.toList.take (⟨#[60]⟩ : ByteArray).size = (⟨#[60]⟩ : ByteArray).data.toList) = false) := Lib.hid (decide_eq_false h0)
    have HR : Hid (∀ n r, wordB n = true → s.data.toList ≠ 60 :: (n ++ 62 :: r)) := Lib.hid (fun n r _ e => h0 (by rw [e]; rfl))
    clear h0
    go_enter Try.func101, Try.ntmps101
    go_wp2_with (go_at_call 104; refine (beg_any s _ _ hm (by decide)).mono ?_; rintro e w' ⟨rfl, rfl⟩; rw [hb.out])
    go_ret2
    exact ⟨.inr ⟨rfl, HR.out⟩, rfl⟩
/-- an element and how many bytes it takes; none -/
def GotScan (s : ByteArray) (w : World) (e : Ending) (w' : World) : Prop :=
  ((∃ (x : ByteArray × ByteArray) (n : Nat), 1 ≤ n ∧ n ≤ s.size ∧ s.data.toList.take n = elT1 x ∧ okE x = true ∧ e = .returned (.tuple #[.agg #[.string x.1, .string x.2], .int .i64 n])) ∨
   (e = .returned (.tuple #[.agg #[.string ⟨#[]⟩, .string ⟨#[]⟩], .int .i64 0]) ∧ ∀ x r, okE x = true → s.data.toList ≠ elT1 x ++ r)) ∧ Below w.heap.size w w'
theorem scan_no {s : ByteArray} (h : ∀ n r, wordB n = true → s.data.toList ≠ 60 :: (n ++ 62 :: r)) : ∀ x r, okE x = true → s.data.toList ≠ elT1 x ++ r := by
  intro x r hx e
  exact h x.1.data.toList (escT x.2.data.toList ++ 60 :: 47 :: (x.1.data.toList ++ 62 :: r)) (okE_of hx).1 (by rw [e]; simp [elT1])
/-- what is written so has this text and this end -/
theorem scan_must {s : ByteArray} {nm en : Nat} (h1 : 1 ≤ nm) (h2 : nm < s.size) (h3 : s.data.toList.take (nm + 1) = 60 :: ((s.extract 1 nm).data.toList ++ [62])) (h4 : wordB (s.extract 1 nm).data.toList = true) (hp : PlaceOf s (nm + 1) 60 en)
    {x : ByteArray × ByteArray} {r : List UInt8} (hx : okE x = true) (e : s.data.toList = elT1 x ++ r) :
    (∃ t, unT (s.extract (nm + 1) en).data.toList = (t, true)) ∧ (s.extract en s.size).data.toList.take ((s.extract 1 nm).size + 3) = 60 :: 47 :: ((s.extract 1 nm).data.toList ++ [62]) := by
  have e' : s.data.toList = 60 :: (x.1.data.toList ++ 62 :: (escT x.2.data.toList ++ 60 :: (47 :: (x.1.data.toList ++ 62 :: r)))) := by rw [e]; simp [elT1]
  have c : (s.extract 1 nm).data.toList ++ 62 :: s.data.toList.drop (nm + 1) = x.1.data.toList ++ 62 :: (escT x.2.data.toList ++ 60 :: (47 :: (x.1.data.toList ++ 62 :: r))) := by
    have q := List.take_append_drop (nm + 1) s.data.toList
    rw [h3] at q
    have q2 := q.trans e'
    simp only [List.cons_append, List.append_assoc, List.cons.injEq, true_and, List.nil_append] at q2
    exact q2
  obtain ⟨c1, c2⟩ := cut_eq (word_plain h4).2 (word_plain (okE_of hx).1).2 c
  have p := elx_at c2 (esc_no60 _) hp.1 hp.2.1 hp.2.2.1 hp.2.2.2
  have d := drop_next c2
  rw [← p] at d
  constructor
  · refine ⟨_, un_yes (okE_of hx).2 ?_⟩
    rw [elx_list, c2, p, Nat.add_sub_cancel_left, List.take_left, escT_in (okE_of hx).2]
  · have l1 : (s.extract 1 nm).size = x.1.data.toList.length := by rw [← c1, blen]
    rw [ext_drop, d, l1, c1]
    have : 60 :: 47 :: (x.1.data.toList ++ 62 :: r) = (60 :: 47 :: (x.1.data.toList ++ [62])) ++ r := by simp
    rw [this]
    have hl : x.1.data.toList.length + 3 = (60 :: 47 :: (x.1.data.toList ++ [62])).length := by simp
    rw [hl, List.take_left]
/-- what was found is written so -/
theorem scan_got {s : ByteArray} {nm en : Nat} {t : List UInt8} (h1 : 1 ≤ nm) (h2 : nm < s.size) (h3 : s.data.toList.take (nm + 1) = 60 :: ((s.extract 1 nm).data.toList ++ [62])) (h4 : wordB (s.extract 1 nm).data.toList = true) (hp : PlaceOf s (nm + 1) 60 en)
    (hu : unT (s.extract (nm + 1) en).data.toList = (t, true)) (hc : (s.extract en s.size).data.toList.take ((s.extract 1 nm).size + 3) = 60 :: 47 :: ((s.extract 1 nm).data.toList ++ [62])) :
    s.data.toList.take (en + ((s.extract 1 nm).size + 3)) = elT1 (s.extract 1 nm, bs t) ∧ okE (s.extract 1 nm, bs t) = true ∧ en + ((s.extract 1 nm).size + 3) ≤ s.size := by
  rcases unT_or (s.extract (nm + 1) en).data.toList with ⟨t', ht, he, hu'⟩ | ⟨_, hu'⟩
  · rw [hu] at hu'
    have : t = t' := by cases hu'; rfl
    subst this
    refine ⟨?_, okE_both h4 ht, ?_⟩
    · rw [List.take_add, take_glue s.data.toList hp.1, h3, ← elx_list, ← he, ← ext_drop, hc]
      unfold elT1
      simp only [bs_data]
      rw [escT_in ht]
      simp only [List.append_assoc, List.cons_append, List.nil_append]
    · have hl := congrArg List.length hc
      have h6 : (s.extract en s.size).data.toList.length = s.size - en := by rw [blen, ByteArray.size_extract]; omega
      have h7 : (60 :: 47 :: ((s.extract 1 nm).data.toList ++ [62])).length = (s.extract 1 nm).size + 3 := by
        rw [List.length_cons, List.length_cons, List.length_append, blen, List.length_singleton]
      rw [List.length_take, h6, h7] at hl
      have := hp.2.1
      omega
  · rw [hu] at hu'; cases hu'
theorem close_size (n : ByteArray) : (⟨#[60, 47]⟩ ++ n ++ ⟨#[62]⟩ : ByteArray).size = n.size + 3 := by
  rw [ByteArray.size_append, ByteArray.size_append]
  show 2 + n.size + 1 = _; omega
theorem close_list (n : ByteArray) : (⟨#[60, 47]⟩ ++ n ++ ⟨#[62]⟩ : ByteArray).data.toList = 60 :: 47 :: (n.data.toList ++ [62]) := by simp
set_option maxRecDepth 100000 in
set_option maxHeartbeats 2000000 in
theorem scanEl_any (s : ByteArray) (w : World) (hs : s.size ≤ 100000000) :
    Calls Try.prog 92 #[.string s] w (GotScan s w) := by
  have hm : s.size ≤ maxLen := by unfold maxLen; omega
  go_enter Try.func92, Try.ntmps92
  go_wp2_with fail
  refine (scanOpen_any s _ hs).mono ?_
  rintro e w' ⟨(⟨nm, h1, h2, h3, h4, rfl⟩ | ⟨rfl, hno⟩), rfl⟩
  · have H3 := Lib.hid h3
    have H4 := Lib.hid h4
    clear h3 h4
    have x1 : (((nm + 1 : Nat) : Int) == 0) = false := by rw [beq_eq_false_iff_ne]; omega
    have hn1 : (s.extract 1 nm).size ≤ 100000000 := by rw [ByteArray.size_extract]; omega
    go_wp2_with fail
    refine (place_any s (nm + 1) 60 _ hm (by omega)).mono ?_
    rintro e w' ⟨en, hp, rfl, rfl⟩
    have p1 := hp.1
    have p2 := hp.2.1
    have HP := Lib.hid hp
    clear hp
    have hx : (s.extract (nm + 1) en).size ≤ maxLen := by rw [ByteArray.size_extract]; omega
    have hy : (s.extract en s.size).size ≤ maxLen := by rw [ByteArray.size_extract]; omega
    have hz : (⟨#[60, 47]⟩ ++ s.extract 1 nm ++ ⟨#[62]⟩ : ByteArray).size ≤ maxLen := by rw [close_size]; unfold maxLen; omega
    have cs := Lib.hid (close_size (s.extract 1 nm))
    obtain ⟨q, hq⟩ : ∃ q, unT (s.extract (nm + 1) en).data.toList = q := ⟨_, rfl⟩
    obtain ⟨t, ok⟩ := q
    have HQ := Lib.hid hq
    clear hq
    go_wp2_with fail
    refine (unI_any _ _ hx).mono ?_
    rintro e w4 ⟨rfl, hb4⟩
    rw [HQ.out]
    have hb5 := Lib.hid (((Below.refl w.heap.size w).alloc (Nat.le_refl _) (.cells #[.string ⟨#[]⟩, .string ⟨#[]⟩] 72)).trans (hb4.mono (by simp)))
    have hc := fun (b o : Nat) (h : b < (w.alloc (.cells #[.string ⟨#[]⟩, .string ⟨#[]⟩] 72)).heap.size) => hb4.cell (p := ⟨b, o, none⟩) h
    have hf := fun (b o : Nat) (h : b < (w.alloc (.cells #[.string ⟨#[]⟩, .string ⟨#[]⟩] 72)).heap.size) => hb4.frozen (p := ⟨b, o, none⟩) h
    have hz4 : w.heap.size < w4.heap.size := by have := hb4.size; simp at this; omega
    clear hb4
    rcases ok with _ | _
    · have HR : Hid (∀ x r, okE x = true → s.data.toList ≠ elT1 x ++ r) := Lib.hid (fun x r hx e => by
        obtain ⟨t', ht'⟩ := (scan_must h1 h2 H3.out H4.out HP.out hx e).1
        rw [HQ.out] at ht'; cases ht')
      go_wp2_with (go_at_call 89; refine (closing_any _ _ hn1).mono ?_; rintro e w' ⟨rfl, rfl⟩)
      refine bodyPost_ret (v := .tuple #[.agg #[.string ⟨#[]⟩, .string ⟨#[]⟩], .int .i64 0]) (by simp [results, Try.results92, go_sem, hc]) rfl ⟨.inr ⟨rfl, HR.out⟩, ?_⟩
      exact (hb5.out.setCell (Nat.le_refl _) _).setCell (Nat.le_refl _) _
    · by_cases hcl : (s.extract en s.size).data.toList.take ((s.extract 1 nm).size + 3) = 60 :: 47 :: ((s.extract 1 nm).data.toList ++ [62])
      · obtain ⟨g1, g2, g3⟩ := scan_got h1 h2 H3.out H4.out HP.out HQ.out hcl
        have G1 := Lib.hid g1
        have G2 := Lib.hid g2
        have HB : Hid (decide ((s.extract en s.size).data.toList.take (⟨#[60, 47]⟩ ++ s.extract 1 nm ++ ⟨#[62]⟩ : ByteArray).size = (⟨#[60, 47]⟩ ++ s.extract 1 nm ++ ⟨#[62]⟩ : ByteArray).data.toList) = true) := Lib.hid (decide_eq_true (by rw [close_size, close_list]; exact hcl))
        clear hcl g1 g2
        go_wp2_with (first | (go_at_call 89; refine (closing_any _ _ hn1).mono ?_; rintro e w' ⟨rfl, rfl⟩) | (go_at_call 104; refine (beg_any _ _ _ hy hz).mono ?_; rintro e w' ⟨rfl, rfl⟩; rw [HB.out]))
        refine bodyPost_ret (v := .tuple #[.agg #[.string (s.extract 1 nm), .string (bs t)], .int .i64 ((en + ((s.extract 1 nm).size + 3) : Nat) : Int)]) (by simp [results, Try.results92, go_sem, hc]; omega) rfl ⟨.inl ⟨(s.extract 1 nm, bs t), _, ?_, g3, G1.out, G2.out, rfl⟩, ?_⟩
        · omega
        · exact (hb5.out.setCell (Nat.le_refl _) _).setCell (Nat.le_refl _) _
      · have HR : Hid (∀ x r, okE x = true → s.data.toList ≠ elT1 x ++ r) := Lib.hid (fun x r hx e => hcl (scan_must h1 h2 H3.out H4.out HP.out hx e).2)
        have HB : Hid (decide ((s.extract en s.size).data.toList.take (⟨#[60, 47]⟩ ++ s.extract 1 nm ++ ⟨#[62]⟩ : ByteArray).size = (⟨#[60, 47]⟩ ++ s.extract 1 nm ++ ⟨#[62]⟩ : ByteArray).data.toList) = false) := Lib.hid (decide_eq_false (by rw [close_size, close_list]; exact hcl))
        clear hcl
        go_wp2_with (first | (go_at_call 89; refine (closing_any _ _ hn1).mono ?_; rintro e w' ⟨rfl, rfl⟩) | (go_at_call 104; refine (beg_any _ _ _ hy hz).mono ?_; rintro e w' ⟨rfl, rfl⟩; rw [HB.out]))
        refine bodyPost_ret (v := .tuple #[.agg #[.string ⟨#[]⟩, .string ⟨#[]⟩], .int .i64 0]) (by simp [results, Try.results92, go_sem, hc]) rfl ⟨.inr ⟨rfl, HR.out⟩, ?_⟩
        exact (hb5.out.setCell (Nat.le_refl _) _).setCell (Nat.le_refl _) _
  · have HR := Lib.hid (scan_no hno)
    clear hno
    go_wp2
    refine bodyPost_ret (v := .tuple #[.agg #[.string ⟨#[]⟩, .string ⟨#[]⟩], .int .i64 0]) (by simp [results, Try.results92, go_sem]) rfl ⟨.inr ⟨rfl, HR.out⟩, ?_⟩
    exact (Below.refl _ _).alloc (Nat.le_refl _) _
theorem make_elems {ops : Array Oper} {rest : List Oper} {o : Oper} {a : Act} {Q : Exit → Act → World → Prop} {w : World} (hg : o.guard = none) (l c : Operand) (hop : o.op = Op.makeSlice 73 l c)
    (W : World) (hb : Below W.heap.size W w) (n : Nat) (hl : a.eval l = .int .i64 0) (hc : a.eval c = .int .i64 n) (hn : n ≤ 1073741824)
    (hK : ∀ v w', OwnE w' W.heap.size v [] → Below W.heap.size W w' → wpList Try.prog ops Q rest (a.put o.dst v) w') : wpList Try.prog ops Q (o :: rest) a w := by
  obtain ⟨i0, hi, hz0, hz1, hz2⟩ := info_parts infoE
  have hsz := hb.size
  refine wpList_make_own w hg l c 73 hop W.heap.size 72 i0 _ 2 Try.underlying73 hi hz0 hz1 .i64 .i64 n n hl hc rfl ?_ ?_ hsz ?_
  · rw [hz2]; omega
  · unfold maxLen; omega
  · intro w' h1 h2
    exact hK _ w' h1 (hb.grown h2 hsz (fun k hk => by cases hk))
theorem ownE_nil (w W : World) : OwnE w W.heap.size (.slice none 0 0) [] := ownG_nil _ _ _ _ _
/-- one more was read -/
theorem rdI_step {s : ByteArray} {k n : Nat} {out : EL} {x : ByteArray × ByteArray} (hout : elL out = s.data.toList.take k) (hok : ∀ e ∈ out, okE e = true) (h1 : (s.extract k s.size).data.toList.take n = elT1 x) (h2 : okE x = true) :
    elL (out ++ [x]) = s.data.toList.take (k + n) ∧ ∀ e ∈ out ++ [x], okE e = true := by
  constructor
  · rw [elL_snoc, hout, List.take_add, ← ext_drop, h1]
  · intro e m
    rcases List.mem_append.1 m with m | m
    · exact hok e m
    · have : e = x := by simpa using m
      subst this; exact h2
/-- whoever is written so goes on after what was read -/
theorem rdI_must {s : ByteArray} {k : Nat} {out : EL} (hlt : k < s.size) (hout : elL out = s.data.toList.take k) (hok : ∀ e ∈ out, okE e = true) {L' : EL} (hv : elB L' = true) (he : elL L' = s.data.toList) :
    out.length < 8 ∧ ∃ x r, okE x = true ∧ (s.extract k s.size).data.toList = elT1 x ++ r := by
  obtain ⟨L2, e1, e2⟩ := elL_pre out L' (s.data.toList.drop k) (fun e m => good_of (hok e m)) (elB_good hv) (by rw [hout, he, List.take_append_drop])
  have hdl : (s.data.toList.drop k).length = s.size - k := by rw [List.length_drop, blen]
  cases L2 with
  | nil => rw [elL_nil] at e2; rw [← e2] at hdl; simp at hdl; omega
  | cons e L3 =>
    refine ⟨?_, e, elL L3, elB_mem hv e (by rw [e1]; simp), ?_⟩
    · have := elB_len hv; rw [e1] at this; simp at this; omega
    · rw [ext_drop, ← e2, elL_cons]
set_option maxRecDepth 100000 in
set_option maxHeartbeats 4000000 in
theorem rdI_elems (s : ByteArray) (w : World) (hs : s.size ≤ 90000000) :
    Calls Try.prog 68 #[.string s] w (GotEL s.data.toList w) := by
  go_enter Try.func68, Try.ntmps68
  go_wp2_with (at_make; refine make_elems rfl _ _ rfl w (Below.refl _ _) 8 rfl rfl (by omega) ?_; intro v0 w1 hown0 hb0)
  have hown0 := Lib.hid hown0
  have hb0 := Lib.hid hb0
  go_loopw [4, 5] (fun v i wr => ∃ (k : Nat) (x : Value) (out : EL), k ≤ s.size ∧ i = .int .i64 k ∧ x = v ∧ out.length ≤ 8 ∧ Hid (elL out = s.data.toList.take k) ∧ Hid (∀ e ∈ out, okE e = true) ∧ Hid (OwnE wr w.heap.size x out) ∧ Hid (Below w.heap.size w wr)) (fun _ i _ => s.size - (intOf i).toNat)
  case atStart => exact ⟨0, _, [], Nat.zero_le _, rfl, rfl, by simp, Lib.hid rfl, Lib.hid (by simp), hown0, hb0⟩
  case round =>
    obtain ⟨k, x, out, hk, rfl, rfl, h8, hout, hok, hown, hbr⟩ := hrel
    by_cases hlt : k < s.size
    · obtain ⟨A, c, rfl⟩ := OwnE.shape hown.out
      have hmust := Lib.hid (fun L' hv he => rdI_must (L' := L') hlt hout.out hok.out hv he)
      have hx1 : (s.extract k s.size).size ≤ 100000000 := by rw [ByteArray.size_extract]; omega
      have hsx := Lib.hid (show (s.extract k s.size).size = s.size - k by rw [ByteArray.size_extract]; omega)
      go_wp2_with fail
      refine (scanEl_any _ _ hx1).mono ?_
      rintro e w2 ⟨(⟨x, n, h1, h2, h3, h4, rfl⟩ | ⟨rfl, hno⟩), hb2⟩
      · obtain ⟨nm, tx⟩ := x
        have h3 := Lib.hid h3
        have h4 := Lib.hid h4
        have hbw := Lib.hid (below_trans' hbr.out hb2)
        have hown2 := Lib.hid (OwnG.grown hown.out hb2)
        have hb2 := Lib.hid hb2
        have hsz2 := hbw.out.size
        rw [hsx.out] at h2
        have n0 : ((n : Int) == 0) = false := by rw [beq_eq_false_iff_ne]; omega
        have n1 : ¬ ((n : Int) = 0) := by omega
        by_cases hfull : out.length = 8
        · have HR := Lib.hid (rdE_no (s := s.data.toList) (fun L' hv h2 => absurd (hmust.out L' hv h2).1 (by omega)))
          have b5 : ((out.length : Int) == 8) = true := by rw [hfull]; rfl
          have p5 : (out.length : Int) = 8 := by omega
          clear hfull
          go_wp2
          go_ret2
          exact ⟨_, [], false, rfl, HR.out, ownE_nil _ w, hbw.out.alloc hsz2 _⟩
        · have b5 : ((out.length : Int) == 8) = false := by rw [beq_eq_false_iff_ne]; omega
          have p5 : ¬ ((out.length : Int) = 8) := by omega
          have HS := Lib.hid (rdI_step hout.out hok.out h3.out h4.out)
          have HL : Hid ((out ++ [(nm, tx)]).length ≤ 8) := Lib.hid (by simp; omega)
          have hol : out.length ≤ 1073741824 := by omega
          have hkn : k + n ≤ s.size := by omega
          have hownX := Lib.hid (OwnG.grown hown2.out ((Below.refl w2.heap.size w2).alloc (Nat.le_refl _) (.cells #[.string nm, .string tx] 72)))
          have hbX := Lib.hid (hbw.out.alloc hsz2 (.cells #[.string nm, .string tx] 72))
          have hgz := Lib.hid (show (w2.alloc (.cells #[.string nm, .string tx] 72)).heap.size = w2.heap.size + 1 by simp)
          clear hfull
          go_wp2_with (at_builtin; refine app_elem rfl (.tmp 27) (.tmp 29) rfl w _ out nm tx rfl hownX.out hbX.out _ hgz.out rfl hol ?_; intro v1 w5 hown5 hb5)
          go_roundw
          case rel => exact ⟨k + n, _, _, hkn, by go_num, rfl, HL.out, Lib.hid HS.out.1, Lib.hid HS.out.2, Lib.hid hown5, Lib.hid hb5⟩
          case measure => simp [intOf]; omega
      · have HR := Lib.hid (rdE_no (s := s.data.toList) (fun L' hv he => by
          obtain ⟨_, x, r, hx, hxr⟩ := hmust.out L' hv he
          exact hno x r hx hxr))
        have hbw := Lib.hid (below_trans' hbr.out hb2)
        have hb2 := Lib.hid hb2
        have hsz2 := hbw.out.size
        clear hno
        go_wp2
        go_ret2
        exact ⟨_, [], false, rfl, HR.out, ownE_nil _ w, hbw.out.alloc hsz2 _⟩
    · have HR : Hid (RdE s.data.toList out true) := Lib.hid ((rdE_end (by rw [hout.out, bfull s k (by omega)]) (fun e m => good_of (hok.out e m))).1 (elB_of h8 hok.out))
      go_wp2
      go_ret2
      exact ⟨_, out, true, rfl, HR.out, hown.out, hbr.out⟩
end Go.Proofs.Yteknjaocamlcpaa
