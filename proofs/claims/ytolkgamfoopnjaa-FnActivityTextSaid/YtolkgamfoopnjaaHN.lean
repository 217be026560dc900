/-
  The verifier's own text: CutC CutI.
-/
import Derived.Test.YtolkgamfoopnjaaRows
import Derived.Test.YtolkgamfoopnjaaHA
import Derived.Test.YtolkgamfoopnjaaGi
import Derived.WalkKit
import Derived.ProofKit
import Derived.Below
import Derived.Lib.Hide
import Derived.Outline
import Derived.BigQuiet
import Derived.Deep.QuietTactic
import Derived.Deep.Draws
import Derived.Laws.OwnMore
import Derived.Laws.Rows
import Derived.WalkSpells
import Derived.Deep.RegionWith
namespace Go.Proofs.Ytolkgamfoopnjaa
open Go.RowKit
set_option linter.unusedVariables false
/-! A text cut at the first byte of a kind. -/
def CutC (z : UInt8) (s a b : List UInt8) : Prop := (z ∉ s ∧ a = s ∧ b = []) ∨ (z ∉ a ∧ s = a ++ z :: b)
theorem cut_uniq {z : UInt8} : ∀ {u t a b : List UInt8}, z ∉ u → z ∉ a → u ++ z :: t = a ++ z :: b → a = u ∧ b = t := by
  intro u
  induction u with
  | nil =>
    intro t a b _ h2 e
    cases a with
    | nil => simp at e; exact ⟨rfl, e.symm⟩
    | cons c r => simp at e; exact absurd (by simp [e.1]) h2
  | cons d u ih =>
    intro t a b h1 h2 e
    cases a with
    | nil => simp at e; exact absurd (by simp [e.1]) h1
    | cons c r =>
      simp at e
      obtain ⟨e1, e2⟩ := e
      obtain ⟨q1, q2⟩ := ih (fun m => h1 (by simp [m])) (fun m => h2 (by simp [m])) e2
      exact ⟨by rw [e1, q1], q2⟩
theorem cutC_app {z : UInt8} {u t a b : List UInt8} (h : z ∉ u) (c : CutC z (u ++ z :: t) a b) : a = u ∧ b = t := by
  rcases c with ⟨q, _, _⟩ | ⟨q1, q2⟩
  · exact absurd (by simp) q
  · exact cut_uniq h q1 q2
theorem cutC_some {z : UInt8} {s a b : List UInt8} (h : b ≠ []) (c : CutC z s a b) : z ∉ a ∧ s = a ++ z :: b := by
  rcases c with ⟨_, _, q⟩ | q
  · exact absurd q h
  · exact q
theorem cutC_all {z : UInt8} {s a b : List UInt8} (h : z ∉ s) (c : CutC z s a b) : a = s ∧ b = [] := by
  rcases c with ⟨_, q1, q2⟩ | ⟨_, q⟩
  · exact ⟨q1, q2⟩
  · exact absurd (by rw [q]; simp) h
theorem cutC_less {z : UInt8} {s a b : List UInt8} (h : s ≠ []) (c : CutC z s a b) : b.length < s.length := by
  rcases c with ⟨_, _, q⟩ | ⟨_, q⟩
  · rw [q]; exact List.length_pos_iff.2 h
  · rw [q]; simp; omega
/-- two texts: what stands before the first such byte, and what after it -/
def GotCut (s : ByteArray) (z : UInt8) (w : World) (e : Ending) (w' : World) : Prop := ∃ a b : ByteArray, CutC z s.data.toList a.data.toList b.data.toList ∧ a.size ≤ s.size ∧ b.size ≤ s.size ∧ e = .returned (.tuple #[.string a, .string b]) ∧ Below w.heap.size w w'
theorem cut_end {s : ByteArray} {z : UInt8} (h : PlaceOf s 0 z s.size) : CutC z s.data.toList s.data.toList (⟨#[]⟩ : ByteArray).data.toList := by
  obtain ⟨_, _, p, _⟩ := h
  refine .inl ⟨fun m => ?_, rfl, rfl⟩
  obtain ⟨i, hi, e⟩ := List.getElem_of_mem m
  have hi' : i < s.size := by rw [blen] at hi; exact hi
  exact p i hi' (by omega) hi' (by rw [← e]; rfl)
theorem cut_at {s : ByteArray} {z : UInt8} {n : Nat} (h : PlaceOf s 0 z n) (hn : n < s.size) (e : s[n] = z) : CutC z s.data.toList (s.extract 0 n).data.toList (s.extract (n + 1) s.size).data.toList := by
  obtain ⟨_, _, p, _⟩ := h
  have e1 : (s.extract 0 n).data.toList = s.data.toList.take n := by simp
  have e2 : (s.extract (n + 1) s.size).data.toList = s.data.toList.drop (n + 1) := by
    simp
    rw [List.take_of_length_le (by rw [List.length_drop, blen]; omega)]
  refine .inr ⟨?_, ?_⟩
  · rw [e1]; intro m
    obtain ⟨i, hi, q⟩ := List.getElem_of_mem m
    have hi2 : i < n ∧ i < s.size := by rw [List.length_take, blen] at hi; omega
    rw [List.getElem_take] at q
    exact p i hi2.2 (by omega) hi2.1 (by rw [← q]; rfl)
  · rw [e1, e2]
    have hl : n < s.data.toList.length := by rw [blen]; exact hn
    have : s.data.toList[n] = z := by rw [← e]; rfl
    rw [← this, ← List.drop_eq_getElem_cons hl, List.take_append_drop]
set_option maxRecDepth 100000 in
set_option maxHeartbeats 1000000 in
theorem cutI_any (s : ByteArray) (z : UInt8) (w : World) (hs : s.size ≤ maxLen) :
    Calls Try.prog 24 #[.string s, .int .u8 z.toNat] w (GotCut s z w) := by
  have hs' := hs
  unfold maxLen at hs'
  go_enter Try.func24, Try.ntmps24
  go_wp2_with fail
  refine (place_any s 0 z _ hs (Nat.zero_le _)).mono ?_
  rintro e w2 ⟨n, hp, rfl, rfl⟩
  by_cases hn : n = s.size
  · subst hn
    have HR := Lib.hid (cut_end hp)
    have t1 : ((s.size : Int) == (s.size : Int)) = true := by simp
    clear hp
    go_wp2
    refine bodyPost_ret (v := .tuple #[.string s, .string ⟨#[]⟩]) (by simp [results, Try.results24, go_sem]) rfl ?_
    exact ⟨s, ⟨#[]⟩, HR.out, Nat.le_refl _, Nat.zero_le _, rfl, Below.refl _ _⟩
  · obtain ⟨p1, p2, p3, p4⟩ := hp
    have hn2 : n < s.size := by omega
    have he : s[n] = z := by
      rcases p4 with h | ⟨_, h⟩
      · exact absurd h hn
      · exact h
    have t1 : ((n : Int) == (s.size : Int)) = false := by rw [beq_eq_false_iff_ne]; omega
    have HR := Lib.hid (cut_at ⟨p1, p2, p3, .inr ⟨hn2, he⟩⟩ hn2 he)
    have q1 : n + 1 ≤ s.size := by omega
    have iw := IntWalk.i64_in ((n : Int) + 1) (by omega)
    have z1 : (s.extract 0 n).size ≤ s.size := by rw [ByteArray.size_extract]; omega
    have z2 : (s.extract (n + 1) s.size).size ≤ s.size := by rw [ByteArray.size_extract]; omega
    obtain ⟨x0, hx0⟩ : ∃ x, s.extract 0 n = x := ⟨_, rfl⟩
    obtain ⟨x1, hx1⟩ : ∃ x, s.extract (n + 1) s.size = x := ⟨_, rfl⟩
    rw [hx0, hx1] at HR
    rw [hx0] at z1
    rw [hx1] at z2
    have z1 := Lib.hid z1
    have z2 := Lib.hid z2
    clear p1 p2 p3 p4 he hn
    go_wp2
    go_region
    go_wp2
    refine bodyPost_ret (v := .tuple #[.string x0, .string x1]) (by simp [results, Try.results24, go_sem]) rfl ?_
    exact ⟨x0, x1, HR.out, z1.out, z2.out, rfl, Below.drew (Below.refl _ _)⟩
end Go.Proofs.Ytolkgamfoopnjaa
