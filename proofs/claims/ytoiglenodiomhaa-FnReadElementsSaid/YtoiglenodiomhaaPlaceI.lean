/-
  The verifier's own text: PlaceI.
-/
import Derived.Test.YtoiglenodiomhaaRows
import Derived.Test.YtoiglenodiomhaaBegI
import Derived.Test.YtoiglenodiomhaaElemRead
import Derived.WalkKit
import Derived.ProofKit
import Derived.Below
import Derived.Lib.Hide
import Derived.Outline
import Derived.BigQuiet
import Derived.Deep.QuietTactic
import Derived.Deep.Draws
import Derived.Laws.OwnMore
import Derived.Laws.Rows
import Derived.WalkSpells
import Derived.Deep.RegionWith
namespace Go.Proofs.Ytoiglenodiomhaa
open Go.RowKit
set_option linter.unusedVariables false
def PlaceOf (s : ByteArray) (p : Nat) (c : UInt8) (n : Nat) : Prop := p ≤ n ∧ n ≤ s.size ∧ (∀ i (hi : i < s.size), p ≤ i → i < n → s[i] ≠ c) ∧ (n = s.size ∨ ∃ h : n < s.size, s[n] = c)
def GotPlace (s : ByteArray) (p : Nat) (c : UInt8) (w : World) (e : Ending) (w' : World) : Prop := ∃ n : Nat, PlaceOf s p c n ∧ e = .returned (.int .i64 n) ∧ w = w'
theorem place_next {s : ByteArray} {p k : Nat} {c : UInt8} (h : s[k]! ≠ c) (F : ∀ i (hi : i < s.size), p ≤ i → i < k → s[i] ≠ c) : ∀ i (hi : i < s.size), p ≤ i → i < k + 1 → s[i] ≠ c := fun i hi a b => by
  by_cases q : i = k
  · subst q; rwa [getElem!_pos s i hi] at h
  · exact F i hi a (by omega)
theorem place_any (s : ByteArray) (p : Nat) (c : UInt8) (w : World) (hs : s.size ≤ maxLen) (hp : p ≤ s.size) :
    Calls Try.prog 56 #[.string s, .int .i64 p, .int .u8 c.toNat] w (GotPlace s p c w) := by
  unfold maxLen at hs
  go_enter Try.func56, Try.ntmps56
  go_wp2
  go_loop [7] (fun i => ∃ k : Nat, p ≤ k ∧ k ≤ s.size ∧ i = .int .i64 k ∧ Hid (∀ i (hi : i < s.size), p ≤ i → i < k → s[i] ≠ c)) (fun i => s.size - (intOf i).toNat)
  case atStart => exact ⟨p, Nat.le_refl _, hp, rfl, Lib.hid (by intro i hi a b; omega)⟩
  case round =>
    obtain ⟨k, h1, h2, rfl, hp3⟩ := hrel
    by_cases hlt : k < s.size
    · by_cases hc : s[k] = c
      · have b1 : ((s[k].toNat : Int) == (c.toNat : Int)) = true := by rw [hc]; simp
        have HR : Hid (PlaceOf s p c k) := Lib.hid ⟨h1, h2, hp3.out, .inr ⟨hlt, hc⟩⟩
        clear hc
        go_wp2
        go_ret
        exact ⟨k, HR.out, rfl, rfl⟩
      · have b1 : ((s[k].toNat : Int) == (c.toNat : Int)) = false := by rw [beq_eq_false_iff_ne]; intro e; exact hc (UInt8.toNat_inj.1 (by omega))
        have HN := Lib.hid (place_next (p := p) (k := k) (c := c) (by rw [getElem!_pos s k hlt]; exact hc) hp3.out)
        clear hc
        go_wp2
        go_round
        case rel => exact ⟨k + 1, by omega, by omega, by go_num, HN⟩
        case measure => simp [intOf]; omega
    · have HR : Hid (PlaceOf s p c s.size) := Lib.hid ⟨hp, Nat.le_refl _, fun i hi a b => hp3.out i hi a (by omega), .inl rfl⟩
      go_wp2
      go_ret
      exact ⟨s.size, HR.out, rfl, rfl⟩
theorem opening_any (n : ByteArray) (w : World) (hn : n.size ≤ 100000000) :
    Calls Try.prog 36 #[.string n] w fun e w' => e = .returned (.string (⟨#[60]⟩ ++ n ++ ⟨#[62]⟩)) ∧ w = w' := by
  have z1 : (⟨#[60]⟩ : ByteArray).size = 1 := rfl
  have z2 : (⟨#[62]⟩ : ByteArray).size = 1 := rfl
  have s1 : (⟨#[60]⟩ : ByteArray).size + n.size ≤ 9223372036854775807 := by omega
  have s2 : (⟨#[60]⟩ ++ n : ByteArray).size + (⟨#[62]⟩ : ByteArray).size ≤ 9223372036854775807 := by rw [ByteArray.size_append]; omega
  clear z1 z2
  go_enter Try.func36, Try.ntmps36
  go_wp2
  go_ret
  exact ⟨rfl, rfl⟩
theorem closing_any (n : ByteArray) (w : World) (hn : n.size ≤ 100000000) :
    Calls Try.prog 38 #[.string n] w fun e w' => e = .returned (.string (⟨#[60, 47]⟩ ++ n ++ ⟨#[62]⟩)) ∧ w = w' := by
  have z1 : (⟨#[60, 47]⟩ : ByteArray).size = 2 := rfl
  have z2 : (⟨#[62]⟩ : ByteArray).size = 1 := rfl
  have s1 : (⟨#[60, 47]⟩ : ByteArray).size + n.size ≤ 9223372036854775807 := by omega
  have s2 : (⟨#[60, 47]⟩ ++ n : ByteArray).size + (⟨#[62]⟩ : ByteArray).size ≤ 9223372036854775807 := by rw [ByteArray.size_append]; omega
  clear z1 z2
  go_enter Try.func38, Try.ntmps38
  go_wp2
  go_ret
  exact ⟨rfl, rfl⟩
end Go.Proofs.Ytoiglenodiomhaa
