/-
  The verifier's own text: DElem2.
-/
import Derived.Test.YtoiglenodiomhaaRows
import Derived.Test.YtoiglenodiomhaaDElem
import Derived.Test.YtoiglenodiomhaaElemTS
import Derived.WalkKit
import Derived.ProofKit
import Derived.Below
import Derived.Lib.Hide
import Derived.Outline
import Derived.BigQuiet
import Derived.Deep.QuietTactic
import Derived.Deep.Draws
import Derived.Laws.OwnMore
import Derived.Laws.Rows
import Derived.WalkSpells
import Derived.Deep.RegionWith
namespace Go.Proofs.Ytoiglenodiomhaa
open Go.RowKit
set_option linter.unusedVariables false
def DrawnEl (w : World) (e : Ending) (w' : World) : Prop := ∃ (v : Value) (L : EL), e = .returned v ∧ L.length ≤ 9 ∧ ShortE L ∧ OwnE w' w.heap.size v L ∧ Below w.heap.size w w'
theorem drawElV_any (w : World) (A : Option Addr) (n c : Nat) (h : CodeArg w A n c) : Calls Try.prog 11 #[.slice A n c] w (DrawnEl w) := by
  go_enter Try.func11, Try.ntmps11
  go_wp2_with (go_at_call 31; refine (open_any w A n c h).mono ?_; rintro e w2 ⟨rfl, hr2⟩)
  refine (elems_draw w w2 w.heap.size 0 2 hr2 (by omega) (by omega) (by omega)).mono ?_
  rintro e w3 ⟨v, L, rfl, h9, hsh, hown, hr3⟩
  go_wp2
  go_ret
  exact ⟨v, L, rfl, h9, hsh, OwnG.base hown (by omega), hr3.bel⟩
theorem drawElT_any (w : World) (A : Option Addr) (n c : Nat) (h : CodeArg w A n c) : Calls Try.prog 15 #[.slice A n c] w (DrawnEl w) := by
  go_enter Try.func15, Try.ntmps15
  go_wp2_with (go_at_call 31; refine (open_any w A n c h).mono ?_; rintro e w2 ⟨rfl, hr2⟩)
  refine (elems_draw w w2 w.heap.size 0 6 hr2 (by omega) (by omega) (by omega)).mono ?_
  rintro e w3 ⟨v, L, rfl, h9, hsh, hown, hr3⟩
  go_wp2
  go_ret
  exact ⟨v, L, rfl, h9, hsh, OwnG.base hown (by omega), hr3.bel⟩
def DrawnElX (w : World) (e : Ending) (w' : World) : Prop := ∃ (v : Value) (L : EL) (n : ByteArray), e = .returned (.tuple #[v, .string n]) ∧ L.length ≤ 9 ∧ n.size ≤ 9 ∧ ShortE L ∧ OwnE w' w.heap.size v L ∧ Below w.heap.size w w'
theorem of_keys (v : Int) (h0 : 0 ≤ v) (h1 : v < 3) : ∃ s : ByteArray, s.size ≤ 9 ∧ (#[Value.string ⟨#[107, 101, 121]⟩, Value.string ⟨#[116, 105, 116, 108, 101]⟩, Value.string ⟨#[110, 111, 110, 101]⟩] : Array Value)[v.toNat]? = some (.string s) ∧
    (∀ h : v.toNat < [Value.string ⟨#[107, 101, 121]⟩, Value.string ⟨#[116, 105, 116, 108, 101]⟩, Value.string ⟨#[110, 111, 110, 101]⟩].length, [Value.string ⟨#[107, 101, 121]⟩, Value.string ⟨#[116, 105, 116, 108, 101]⟩, Value.string ⟨#[110, 111, 110, 101]⟩][v.toNat] = .string s) := by
  obtain rfl | rfl | rfl : v = 0 ∨ v = 1 ∨ v = 2 := by omega
  all_goals exact ⟨_, by decide, rfl, fun _ => rfl⟩
set_option maxHeartbeats 1000000 in
theorem drawElX_any (w : World) (A : Option Addr) (n c : Nat) (h : CodeArg w A n c) : Calls Try.prog 22 #[.slice A n c] w (DrawnElX w) := by
  go_enter Try.func22, Try.ntmps22
  go_wp2_with (go_at_call 31; refine (open_any w A n c h).mono ?_; rintro e w2 ⟨rfl, hr2⟩)
  refine (elems_draw w w2 w.heap.size 0 9 hr2 (by omega) (by omega) (by omega)).mono ?_
  rintro e w3 ⟨v, L, rfl, h9, hsh, hown, hr3⟩
  have hown := Lib.hid hown
  have hlt3 := hr3.lt
  go_wp2
  go_region_with (go_at_call 42; ((with_reducible refine (pick_any w _ w.heap.size (0 + 20) 3 (by first | exact hr3.drew | exact (hr3.alloc _).drew | exact hr3.drew.alloc _) (by omega)).mono ?_); rintro e w4 ⟨v4, a4, b4, _, rfl, hr4, hg4⟩; have b4 := b4 (by omega); obtain ⟨s4, hs4, hel, hel'⟩ := of_keys v4 a4 b4; have hown4 : Hid (OwnE w4 (w.heap.size + 1) v L) := Lib.hid (by first | exact OwnG.row (w := w3.drew) hown.out hg4 (fun k e => by cases e; omega) | exact OwnG.row (OwnG.grown hown.out (Below.drew ((Below.refl _ _).alloc (Nat.le_refl _) _))) hg4 (fun k e => by cases e; omega)); (first | (have k1 := kept_one hg4 hlt3 v4.toNat; rw [hel] at k1) | skip); clear hg4))
  all_goals
    go_wp2
    go_ret2
    first
      | exact ⟨v, L, s4, rfl, h9, hs4, hsh, OwnG.base hown4.out (by omega), hr4.bel⟩
      | exact ⟨v, L, s4, rfl, h9, hs4, hsh, OwnG.base (OwnG.grown hown4.out ((Below.refl _ _).alloc (Nat.le_refl _) _)) (by omega), hr4.bel.alloc hr4.bel.size _⟩
set_option maxHeartbeats 1000000 in
theorem drawElR_any (w : World) (A : Option Addr) (n c : Nat) (h : CodeArg w A n c) : Calls Try.prog 20 #[.slice A n c] w (DrawnStr w 5000) := by
  go_enter Try.func20, Try.ntmps20
  go_wp2_with (go_at_call 31; refine (open_any w A n c h).mono ?_; rintro e w2 ⟨rfl, hr2⟩)
  refine (elems_draw w w2 w.heap.size 0 0 hr2 (by omega) (by omega) (by omega)).mono ?_
  rintro e w3 ⟨v, L, rfl, h9, hsh, hown, hr3⟩
  go_wp2_with fail
  refine (elS_text v L _ (OwnG.rd hown) (fit_short hsh)).mono ?_
  rintro e w4 ⟨rfl, mm, rfl⟩
  have hr4 := hr3.drewN mm
  have hs : (bs (elT L)).size ≤ 4008 := by rw [bs_size]; exact elT_len L
  obtain ⟨s, hs'⟩ : ∃ s, bs (elT L) = s := ⟨_, rfl⟩
  rw [hs'] at hs ⊢
  clear hs' hown
  obtain ⟨w5, hw5⟩ : ∃ w5, w3.drewN mm = w5 := ⟨_, rfl⟩
  rw [hw5] at hr4 ⊢
  clear hw5 hr3
  go_wp2_with fail
  refine (odd_any w _ w.heap.size (0 + 20) 3 hr4 (by omega) (by omega) (by omega)).mono ?_
  rintro e w6 ⟨b, rfl, hr6, _⟩
  have z1 : (⟨#[60]⟩ : ByteArray).size = 1 := rfl
  have z2 : (⟨#[32]⟩ : ByteArray).size = 1 := rfl
  have s1 : s.size + (⟨#[60]⟩ : ByteArray).size ≤ 9223372036854775807 := by omega
  have s2 : s.size + (⟨#[32]⟩ : ByteArray).size ≤ 9223372036854775807 := by omega
  have l1 : (s ++ ⟨#[60]⟩ : ByteArray).size ≤ 5000 := by rw [ByteArray.size_append]; omega
  have l2 : (s ++ ⟨#[32]⟩ : ByteArray).size ≤ 5000 := by rw [ByteArray.size_append]; omega
  have L1 := Lib.hid l1
  have L2 := Lib.hid l2
  clear l1 l2 z1 z2
  rcases b with _ | _
  · go_wp2
    go_ret
    exact ⟨_, by omega, rfl, hr6.bel⟩
  · go_wp2_with fail
    refine (pick_any w _ w.heap.size (0 + 20 + 1) 11 (hr6.alloc _) (by omega)).mono ?_
    rintro e w7 ⟨v4, a4, b4, _, rfl, hr7, hg7⟩
    have b4 := b4 (by omega)
    have k0 := cell_kept hg7 hr6.lt
    clear hg7
    obtain rfl | rfl | rfl | rfl | rfl | rfl | rfl | rfl | rfl | rfl | rfl : v4 = 0 ∨ v4 = 1 ∨ v4 = 2 ∨ v4 = 3 ∨ v4 = 4 ∨ v4 = 5 ∨ v4 = 6 ∨ v4 = 7 ∨ v4 = 8 ∨ v4 = 9 ∨ v4 = 10 := by omega
    all_goals
      go_wp2
      go_ret
      first
        | exact ⟨_, by decide, rfl, hr7.bel⟩
        | exact ⟨_, L1.out, rfl, hr7.bel⟩
        | exact ⟨_, L2.out, rfl, hr7.bel⟩
end Go.Proofs.Ytoiglenodiomhaa
