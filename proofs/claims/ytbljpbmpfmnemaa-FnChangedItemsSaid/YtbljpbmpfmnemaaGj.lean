/-
  The verifier's own text: ScanI RdEI.
-/
import Derived.Test.YtbljpbmpfmnemaaRows
import Derived.Test.YtbljpbmpfmnemaaGi
import Derived.Test.YtbljpbmpfmnemaaGc
import Derived.Test.YtbljpbmpfmnemaaGd
import Derived.WalkKit
import Derived.ProofKit
import Derived.Below
import Derived.Lib.Hide
import Derived.Outline
import Derived.BigQuiet
import Derived.Deep.QuietTactic
import Derived.Deep.Draws
import Derived.Laws.OwnMore
import Derived.Laws.Rows
import Derived.WalkSpells
import Derived.Deep.RegionWith
namespace Go.Proofs.Ytbljpbmpfmnemaa
open Go.RowKit
set_option linter.unusedVariables false
def GotOpen (s : ByteArray) (w : World) (e : Ending) (w' : World) : Prop :=
  ((∃ nm : Nat, 1 ≤ nm ∧ nm < s.size ∧ s.data.toList.take (nm + 1) = 60 :: ((s.extract 1 nm).data.toList ++ [62]) ∧ wordB (s.extract 1 nm).data.toList = true ∧ e = .returned (.tuple #[.string (s.extract 1 nm), .int .i64 ((nm + 1 : Nat) : Int)])) ∨
   (e = .returned (.tuple #[.string ⟨#[]⟩, .int .i64 0]) ∧ ∀ n r, wordB n = true → s.data.toList ≠ 60 :: (n ++ 62 :: r))) ∧ w = w'
theorem open_place {s : ByteArray} {k : Nat} {n r : List UInt8} (hn : wordB n = true) (e : s.data.toList = 60 :: (n ++ 62 :: r)) (h : PlaceOf s 1 62 k) : k = 1 + n.length ∧ k < s.size ∧ (s.extract 1 k).data.toList = n := by
  have d : s.data.toList.drop 1 = n ++ 62 :: r := by rw [e]; rfl
  have p := elx_at d (word_plain hn).2 h.1 h.2.1 h.2.2.1 h.2.2.2
  have hl := congrArg List.length e
  rw [blen] at hl; simp at hl
  refine ⟨p, by omega, ?_⟩
  rw [elx_list, d, p, Nat.add_sub_cancel_left, List.take_left]
theorem open_list {s : ByteArray} {k : Nat} (h0 : s.data.toList.take 1 = [60]) (h : PlaceOf s 1 62 k) (hk : k < s.size) : s.data.toList.take (k + 1) = 60 :: ((s.extract 1 k).data.toList ++ [62]) := by
  have hc : s[k] = 62 := by
    rcases h.2.2.2 with q | ⟨_, q⟩
    · omega
    · exact q
  rw [btake s k hk, hc, take_glue s.data.toList h.1, ← elx_list, h0]; simp
/-- an element and how many bytes it takes; none -/
def GotScan (s : ByteArray) (w : World) (e : Ending) (w' : World) : Prop :=
  ((∃ (x : ByteArray × ByteArray) (n : Nat), 1 ≤ n ∧ n ≤ s.size ∧ s.data.toList.take n = elT1 x ∧ okE x = true ∧ e = .returned (.tuple #[.agg #[.string x.1, .string x.2], .int .i64 n])) ∨
   (e = .returned (.tuple #[.agg #[.string ⟨#[]⟩, .string ⟨#[]⟩], .int .i64 0]) ∧ ∀ x r, okE x = true → s.data.toList ≠ elT1 x ++ r)) ∧ Below w.heap.size w w'
theorem scan_no {s : ByteArray} (h : ∀ n r, wordB n = true → s.data.toList ≠ 60 :: (n ++ 62 :: r)) : ∀ x r, okE x = true → s.data.toList ≠ elT1 x ++ r := by
  intro x r hx e
  exact h x.1.data.toList (escT x.2.data.toList ++ 60 :: 47 :: (x.1.data.toList ++ 62 :: r)) (okE_of hx).1 (by rw [e]; simp [elT1])
/-- what is written so has this text and this end -/
theorem scan_must {s : ByteArray} {nm en : Nat} (h1 : 1 ≤ nm) (h2 : nm < s.size) (h3 : s.data.toList.take (nm + 1) = 60 :: ((s.extract 1 nm).data.toList ++ [62])) (h4 : wordB (s.extract 1 nm).data.toList = true) (hp : PlaceOf s (nm + 1) 60 en)
    {x : ByteArray × ByteArray} {r : List UInt8} (hx : okE x = true) (e : s.data.toList = elT1 x ++ r) :
    (∃ t, unT (s.extract (nm + 1) en).data.toList = (t, true)) ∧ (s.extract en s.size).data.toList.take ((s.extract 1 nm).size + 3) = 60 :: 47 :: ((s.extract 1 nm).data.toList ++ [62]) := by
  have e' : s.data.toList = 60 :: (x.1.data.toList ++ 62 :: (escT x.2.data.toList ++ 60 :: (47 :: (x.1.data.toList ++ 62 :: r)))) := by rw [e]; simp [elT1]
  have c : (s.extract 1 nm).data.toList ++ 62 :: s.data.toList.drop (nm + 1) = x.1.data.toList ++ 62 :: (escT x.2.data.toList ++ 60 :: (47 :: (x.1.data.toList ++ 62 :: r))) := by
    have q := List.take_append_drop (nm + 1) s.data.toList
    rw [h3] at q
    have q2 := q.trans e'
    simp only [List.cons_append, List.append_assoc, List.cons.injEq, true_and, List.nil_append] at q2
    exact q2
  obtain ⟨c1, c2⟩ := cut_eq (word_plain h4).2 (word_plain (okE_of hx).1).2 c
  have p := elx_at c2 (esc_no60 _) hp.1 hp.2.1 hp.2.2.1 hp.2.2.2
  have d := drop_next c2
  rw [← p] at d
  constructor
  · refine ⟨_, un_yes (okE_of hx).2 ?_⟩
    rw [elx_list, c2, p, Nat.add_sub_cancel_left, List.take_left, escT_in (okE_of hx).2]
  · have l1 : (s.extract 1 nm).size = x.1.data.toList.length := by rw [← c1, blen]
    rw [ext_drop, d, l1, c1]
    have : 60 :: 47 :: (x.1.data.toList ++ 62 :: r) = (60 :: 47 :: (x.1.data.toList ++ [62])) ++ r := by simp
    rw [this]
    have hl : x.1.data.toList.length + 3 = (60 :: 47 :: (x.1.data.toList ++ [62])).length := by simp
    rw [hl, List.take_left]
/-- what was found is written so -/
theorem scan_got {s : ByteArray} {nm en : Nat} {t : List UInt8} (h1 : 1 ≤ nm) (h2 : nm < s.size) (h3 : s.data.toList.take (nm + 1) = 60 :: ((s.extract 1 nm).data.toList ++ [62])) (h4 : wordB (s.extract 1 nm).data.toList = true) (hp : PlaceOf s (nm + 1) 60 en)
    (hu : unT (s.extract (nm + 1) en).data.toList = (t, true)) (hc : (s.extract en s.size).data.toList.take ((s.extract 1 nm).size + 3) = 60 :: 47 :: ((s.extract 1 nm).data.toList ++ [62])) :
    s.data.toList.take (en + ((s.extract 1 nm).size + 3)) = elT1 (s.extract 1 nm, bs t) ∧ okE (s.extract 1 nm, bs t) = true ∧ en + ((s.extract 1 nm).size + 3) ≤ s.size := by
  rcases unT_or (s.extract (nm + 1) en).data.toList with ⟨t', ht, he, hu'⟩ | ⟨_, hu'⟩
  · rw [hu] at hu'
    have : t = t' := by cases hu'; rfl
    subst this
    refine ⟨?_, okE_both h4 ht, ?_⟩
    · rw [List.take_add, take_glue s.data.toList hp.1, h3, ← elx_list, ← he, ← ext_drop, hc]
      unfold elT1
      simp only [bs_data]
      rw [escT_in ht]
      simp only [List.append_assoc, List.cons_append, List.nil_append]
    · have hl := congrArg List.length hc
      have h6 : (s.extract en s.size).data.toList.length = s.size - en := by rw [blen, ByteArray.size_extract]; omega
      have h7 : (60 :: 47 :: ((s.extract 1 nm).data.toList ++ [62])).length = (s.extract 1 nm).size + 3 := by
        rw [List.length_cons, List.length_cons, List.length_append, blen, List.length_singleton]
      rw [List.length_take, h6, h7] at hl
      have := hp.2.1
      omega
  · rw [hu] at hu'; cases hu'
theorem close_size (n : ByteArray) : (⟨#[60, 47]⟩ ++ n ++ ⟨#[62]⟩ : ByteArray).size = n.size + 3 := by
  rw [ByteArray.size_append, ByteArray.size_append]
  show 2 + n.size + 1 = _; omega
theorem close_list (n : ByteArray) : (⟨#[60, 47]⟩ ++ n ++ ⟨#[62]⟩ : ByteArray).data.toList = 60 :: 47 :: (n.data.toList ++ [62]) := by simp
/-- one more was read -/
theorem rdI_step {s : ByteArray} {k n : Nat} {out : EL} {x : ByteArray × ByteArray} (hout : elL out = s.data.toList.take k) (hok : ∀ e ∈ out, okE e = true) (h1 : (s.extract k s.size).data.toList.take n = elT1 x) (h2 : okE x = true) :
    elL (out ++ [x]) = s.data.toList.take (k + n) ∧ ∀ e ∈ out ++ [x], okE e = true := by
  constructor
  · rw [elL_snoc, hout, List.take_add, ← ext_drop, h1]
  · intro e m
    rcases List.mem_append.1 m with m | m
    · exact hok e m
    · have : e = x := by simpa using m
      subst this; exact h2
/-- whoever is written so goes on after what was read -/
theorem rdI_must {s : ByteArray} {k : Nat} {out : EL} (hlt : k < s.size) (hout : elL out = s.data.toList.take k) (hok : ∀ e ∈ out, okE e = true) {L' : EL} (hv : elB L' = true) (he : elL L' = s.data.toList) :
    out.length < 8 ∧ ∃ x r, okE x = true ∧ (s.extract k s.size).data.toList = elT1 x ++ r := by
  obtain ⟨L2, e1, e2⟩ := elL_pre out L' (s.data.toList.drop k) (fun e m => good_of (hok e m)) (elB_good hv) (by rw [hout, he, List.take_append_drop])
  have hdl : (s.data.toList.drop k).length = s.size - k := by rw [List.length_drop, blen]
  cases L2 with
  | nil => rw [elL_nil] at e2; rw [← e2] at hdl; simp at hdl; omega
  | cons e L3 =>
    refine ⟨?_, e, elL L3, elB_mem hv e (by rw [e1]; simp), ?_⟩
    · have := elB_len hv; rw [e1] at this; simp at this; omega
    · rw [ext_drop, ← e2, elL_cons]
end Go.Proofs.Ytbljpbmpfmnemaa
