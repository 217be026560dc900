/-
  The verifier's own text: MarkL.
-/
import Derived.Test.YtoiglenodiomhaaRows
import Derived.Test.YtoiglenodiomhaaGot
import Derived.IntWalk
import Derived.WalkKit
import Derived.ProofKit
import Derived.Below
import Derived.Lib.Hide
import Derived.Outline
import Derived.BigQuiet
import Derived.Deep.QuietTactic
import Derived.Deep.Draws
import Derived.Laws.OwnMore
import Derived.Laws.Rows
import Derived.WalkSpells
import Derived.Deep.RegionWith
namespace Go.Proofs.Ytoiglenodiomhaa
open Go.RowKit
set_option linter.unusedVariables false
/-- the digits of a number ahead of a text -/
def mkF : Nat → Nat → List UInt8 → List UInt8
  | 0, _, acc => acc
  | f + 1, n, acc => if n = 0 then acc else mkF f (n / 10) (UInt8.ofNat (48 + n % 10) :: acc)
theorem mkF_zero (f : Nat) (acc : List UInt8) : mkF f 0 acc = acc := by cases f <;> simp [mkF]
theorem mkF_more : ∀ (f f' n : Nat) (acc : List UInt8), n ≤ f → n ≤ f' → mkF f n acc = mkF f' n acc := by
  intro f
  induction f with
  | zero =>
    intro f' n acc h _
    have e : n = 0 := by omega
    rw [e, mkF_zero, mkF_zero]
  | succ f ih =>
    intro f' n acc h h'
    by_cases hn : n = 0
    · subst hn; rw [mkF_zero, mkF_zero]
    · cases f' with
      | zero => omega
      | succ f' =>
        simp only [mkF, hn, if_false]
        exact ih f' (n / 10) _ (by omega) (by omega)
/-- what markText answers -/
def mkT (k : Nat) : ByteArray := if k = 0 then ⟨#[109, 48]⟩ else bs (109 :: mkF k k [])
theorem mkF_step {n : Nat} (h : n ≠ 0) (acc : List UInt8) : mkF n n acc = mkF (n / 10) (n / 10) (UInt8.ofNat (48 + n % 10) :: acc) := by
  cases n with
  | zero => exact absurd rfl h
  | succ m =>
    have e : mkF (m + 1) (m + 1) acc = mkF m ((m + 1) / 10) (UInt8.ofNat (48 + (m + 1) % 10) :: acc) := by simp [mkF]
    rw [e]
    exact mkF_more m ((m + 1) / 10) ((m + 1) / 10) _ (by omega) (Nat.le_refl _)
theorem dig_u8 (n : Nat) : (UInt8.ofNat (48 + n % 10)).toNat = 48 + n % 10 := by
  rw [UInt8.toNat_ofNat']; omega
set_option maxHeartbeats 1000000 in
theorem mark_any (k : Nat) (w : World) (hk : k ≤ 100000) :
    Calls Try.prog 47 #[.int .i64 k] w fun e w' => e = .returned (.string (mkT k)) ∧ Below w.heap.size w w' := by
  by_cases h0 : k = 0
  · subst h0
    go_enter Try.func47, Try.ntmps47
    go_wp2
    go_ret
    exact ⟨rfl, Below.refl _ _⟩
  · have HT : Hid (mkT k = bs (109 :: mkF k k [])) := Lib.hid (by simp [mkT, h0])
    have happ := bs_append
    have hpos : 0 < k := by omega
    have d0 : decide ((k : Int) ≤ 0) = false := decide_eq_false (by omega)
    have d1 : decide (k = 0) = false := decide_eq_false h0
    have d2 : ¬ ((k : Int) ≤ 0) := by omega
    clear h0
    go_enter Try.func47, Try.ntmps47
    go_wp2
    go_loopw [0, 3] (fun i t wr => ∃ (n : Nat) (acc : List UInt8), i = .int .i64 n ∧ t = .string (bs acc) ∧ acc.length + n ≤ k ∧ Hid (mkF k k [] = mkF n n acc) ∧ Hid (Below w.heap.size w wr)) (fun i _ _ => (intOf i).toNat)
    case atStart => exact ⟨k, [], rfl, rfl, by simp, Lib.hid rfl, Lib.hid (Below.refl _ _)⟩
    case round =>
      obtain ⟨n, acc, rfl, rfl, hl, hp, hbr⟩ := hrel
      by_cases hn : n = 0
      · subst hn
        have HR : Hid (mkT k = bs (109 :: acc)) := Lib.hid (by rw [HT.out, hp.out, mkF_zero])
        have z1 : (⟨#[109]⟩ : ByteArray).size + (bs acc).size ≤ 9223372036854775807 := by rw [bs_size]; show 1 + _ ≤ _; omega
        go_wp2
        go_ret
        exact ⟨by rw [HR.out]; show Ending.returned (.string (bs [109] ++ bs acc)) = _; rw [bs_append]; rfl, hbr.out⟩
      · have HN := Lib.hid (hp.out.trans (mkF_step hn acc))
        have hpn : 0 < n := by omega
        obtain ⟨c, hc⟩ : ∃ c, UInt8.ofNat (48 + n % 10) = c := ⟨_, rfl⟩
        have hcn : (c.toNat : Int) = 48 + (n : Int) % 10 := by rw [← hc, dig_u8]; omega
        rw [hc] at HN
        have hcv : ∀ w' : World, (convert 22 9 (.slice (some ⟨w'.heap.size, 0, none⟩) 1 1)).run Try.prog (w'.alloc (.cells #[.int .u8 (48 + (n : Int) % 10)] 5)) = .ok (.string (bs [c])) (w'.alloc (.cells #[.int .u8 (48 + (n : Int) % 10)] 5)) := fun w' => by
          have := conv1 w' c
          rw [hcn] at this
          exact this
        have z1 : (bs [c]).size + (bs acc).size ≤ 9223372036854775807 := by rw [bs_size, bs_size]; show 1 + _ ≤ _; omega
        clear hc hcn
        have hsz := hbr.out.size
        clear hn
        go_wp2
        go_roundw
        case rel => exact ⟨n / 10, c :: acc, by go_num, by first | rfl | (rw [bs_append]; rfl), by simp; omega, HN, Lib.hid (hbr.out.alloc hsz _)⟩
        case measure => simp [intOf]; omega
theorem mark_int (k : Int) (q : Nat) (w : World) (h : k = (q : Int)) (hq : q ≤ 100000) :
    Calls Try.prog 47 #[.int .i64 k] w fun e w' => e = .returned (.string (mkT q)) ∧ Below w.heap.size w w' := by subst h; exact mark_any q w hq
end Go.Proofs.Ytoiglenodiomhaa
