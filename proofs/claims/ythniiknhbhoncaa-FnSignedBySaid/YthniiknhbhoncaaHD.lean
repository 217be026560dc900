/-
  The verifier's own text: ActS ActA ActN.
-/
import Derived.Test.YthniiknhbhoncaaRows
import Derived.Test.YthniiknhbhoncaaHC
import Derived.Test.YthniiknhbhoncaaHA
import Derived.Test.YthniiknhbhoncaaGo
import Derived.Test.YthniiknhbhoncaaGi
import Derived.Laws.Cover1
import Derived.Test.YthniiknhbhoncaaGf
import Derived.Deep.DeepCutAuto
import Derived.Deep.RegionLaw
import Derived.WalkKit
import Derived.ProofKit
import Derived.Below
import Derived.Lib.Hide
import Derived.Outline
import Derived.BigQuiet
import Derived.Deep.QuietTactic
import Derived.Deep.Draws
import Derived.Laws.OwnMore
import Derived.Laws.Rows
import Derived.WalkSpells
import Derived.Deep.RegionWith
namespace Go.Proofs.Ythniiknhbhoncaa
open Go.RowKit
set_option linter.unusedVariables false
theorem acB_bad {a : Ac} (h : wordB a.name.data.toList = false ∨ wordB a.feed.data.toList = false ∨ inB a.sign 0 1000000000 = false) : acB a = false := by
  unfold acB; rcases h with h | h | h
  · rw [h]; rfl
  · rw [h]; simp
  · unfold inB at h; rw [h]; simp
theorem acB_good {a : Ac} (h0 : wordB a.name.data.toList = true) (h1 : wordB a.feed.data.toList = true) (h2 : inB a.sign 0 1000000000 = true) : acB a = true := by
  unfold acB; unfold inB at h2; rw [h0, h1, h2]; rfl
theorem leq_no {a p : ByteArray} (h : Op.bytesLess p.data.toList a.data.toList = false) : (Op.bytesLess a.toList p.toList || a.toList == p.toList) = true := by
  rw [ByteArray.toList_eq, ByteArray.toList_eq]
  by_cases e : p.data.toList = a.data.toList
  · rw [e]; simp
  · rw [less_total e h]; rfl
theorem leq_yes {a p : ByteArray} (h : Op.bytesLess p.data.toList a.data.toList = true) : Op.bytesLess a.toList p.toList = false ∧ (a.toList == p.toList) = false := by
  rw [ByteArray.toList_eq, ByteArray.toList_eq]
  exact ⟨(less_asymm h).1, by have := (less_asymm h).2; simpa using this⟩
theorem fitAcs_take {L : List Ac} (h : FitAcs L) (a : Ac) (ha : FitAc a) : FitAcs (insG acL L a) := fun e m => by
  rcases insG_mem.1 m with m | rfl
  · exact h e m
  · exact ha
theorem nfA_out {L : List Ac} {w : ByteArray} (h : acsB L = false ∨ wordB w.data.toList = false) : nfA L w = ⟨#[]⟩ := by
  unfold nfA; rcases h with h | h <;> simp [h]
theorem nfA_word {L : List Ac} {w : ByteArray} (h : acsB L = true) (k : wordB w.data.toList = true) (n : acN L w < 0) : nfA L w = w := by
  unfold nfA; simp [h, k, n]
theorem nfA_dig {L : List Ac} {w : ByteArray} (h : acsB L = true) (k : wordB w.data.toList = true) (n : ¬ acN L w < 0) : nfA L w = nfD L w 8 50 := by
  unfold nfA; simp [h, k, n]
theorem nfD_yes {L : List Ac} {w : ByteArray} {f d : Nat} (h : acN L (digA w d) < 0) : nfD L w (f + 1) d = digA w d := by simp [nfD, h]
theorem nfD_no {L : List Ac} {w : ByteArray} {f d : Nat} (h : ¬ acN L (digA w d) < 0) : nfD L w (f + 1) d = nfD L w f (d + 1) := by simp [nfD, h]
theorem cutA_size (w : ByteArray) (h : w.size ≤ 8) : (cutA w).size ≤ 7 := by unfold cutA; rw [ByteArray.size_extract]; omega
def GotBA (s : ByteArray) (w : World) (e : Ending) (w' : World) : Prop := e = .returned (.string s) ∧ Below w.heap.size w w'
end Go.Proofs.Ythniiknhbhoncaa
