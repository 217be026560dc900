/-
  The verifier's own text: ReadES.
-/
import Derived.Test.YthniiknhbhoncaaRows
import Derived.Test.YthniiknhbhoncaaGi
import Derived.Test.YthniiknhbhoncaaGd
import Derived.WalkKit
import Derived.ProofKit
import Derived.Below
import Derived.Lib.Hide
import Derived.Outline
import Derived.BigQuiet
import Derived.Deep.QuietTactic
import Derived.Deep.Draws
import Derived.Laws.OwnMore
import Derived.Laws.Rows
import Derived.WalkSpells
import Derived.Deep.RegionWith
namespace Go.Proofs.Ythniiknhbhoncaa
open Go.RowKit
set_option linter.unusedVariables false
theorem scan0 {s : ByteArray} {k : Nat} (hlt : k < s.size) (F : ∀ i (hi : i < s.size), k + 1 ≤ i → i < s.size → s[i] ≠ 62) : Scan s k s.size s.size s.size :=
  ⟨by omega, Nat.le_refl _, F, .inl rfl, Nat.le_refl _, Nat.le_refl _, by intro i hi a b; omega, .inl rfl, Nat.le_refl _, Nat.le_refl _, by intro i hi a b; omega, .inl rfl⟩
theorem scan1 {s : ByteArray} {k nm : Nat} (n1 : k + 1 ≤ nm) (hn : nm < s.size) (n3 : ∀ i (hi : i < s.size), k + 1 ≤ i → i < nm → s[i] ≠ 62) (hc : s[nm] = 62) (F : ∀ i (hi : i < s.size), nm ≤ i → i < s.size → s[i] ≠ 60) : Scan s k nm s.size s.size :=
  ⟨n1, by omega, n3, .inr ⟨hn, hc⟩, by omega, Nat.le_refl _, F, .inl rfl, Nat.le_refl _, Nat.le_refl _, by intro i hi a b; omega, .inl rfl⟩
theorem scan2 {s : ByteArray} {k nm en la : Nat} (n1 : k + 1 ≤ nm) (hn : nm < s.size) (n3 : ∀ i (hi : i < s.size), k + 1 ≤ i → i < nm → s[i] ≠ 62) (hc : s[nm] = 62)
    (e1 : nm ≤ en) (he : en < s.size) (e3 : ∀ i (hi : i < s.size), nm ≤ i → i < en → s[i] ≠ 60) (hd : s[en] = 60) (l1 : en ≤ la) (l2 : la ≤ s.size) (l3 : ∀ i (hi : i < s.size), en ≤ i → i < la → s[i] ≠ 62) (l4 : la = s.size ∨ ∃ h : la < s.size, s[la] = 62) : Scan s k nm en la :=
  ⟨n1, by omega, n3, .inr ⟨hn, hc⟩, e1, by omega, e3, .inr ⟨he, hd⟩, l1, l2, l3, l4⟩
theorem scan_next {s : ByteArray} {p k : Nat} {c : UInt8} (hk : k < s.size) (h : s[k] ≠ c) (F : ∀ i (hi : i < s.size), p ≤ i → i < k → s[i] ≠ c) : ∀ i (hi : i < s.size), p ≤ i → i < k + 1 → s[i] ≠ c := fun i hi a b => by
  by_cases q : i = k
  · subst q; exact h
  · exact F i hi a (by omega)
theorem size_dn {B : Nat} (w : World) (o : Obj) (n : Nat) (h : B ≤ w.heap.size) : B ≤ ((w.alloc o).drewN n).heap.size := by
  show _ ≤ (w.alloc o).heap.size; simp; omega
end Go.Proofs.Ythniiknhbhoncaa
