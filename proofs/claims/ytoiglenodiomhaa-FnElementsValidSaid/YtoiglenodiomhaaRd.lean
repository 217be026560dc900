/-
  The verifier's own text: Rd.
-/
import Derived.Test.YtoiglenodiomhaaRows
import Derived.Test.YtoiglenodiomhaaOwn
import Derived.WalkKit
import Derived.ProofKit
import Derived.Below
import Derived.Lib.Hide
import Derived.Outline
import Derived.BigQuiet
import Derived.Deep.QuietTactic
import Derived.Deep.Draws
import Derived.Laws.OwnMore
import Derived.Laws.Rows
import Derived.WalkSpells
import Derived.Deep.RegionWith
namespace Go.Proofs.Ytoiglenodiomhaa
open Go.RowKit
set_option linter.unusedVariables false
/-- the cells of the code: bytes, below block B -/
def Code8 (w : World) (B : Nat) (A : Option Addr) (n : Nat) : Prop :=
  n ≤ 2000 ∧ (0 < n → ∃ ad, A = some ad ∧ ad.block < B ∧ ∀ i, i < n → ∃ z : Int, w.cell? (ad.add i) = some (.int .u8 z) ∧ 0 ≤ z ∧ z ≤ 255)
def SomeInt (P : Int → Prop) (w : World) (e : Ending) (w' : World) : Prop := ∃ (n : Int) (k : Nat), P n ∧ e = .returned (.int .i64 n) ∧ w' = w.drewN k
theorem pick_zero (g n c : Nat) (A : Option Addr) (p k : Int) (w : World) (h0 : w.cell? ⟨g, 0, none⟩ = some (.slice A n c)) (h1 : w.cell? ⟨g, 1, none⟩ = some (.int .i64 p))
    (hf : w.frozen? ⟨g, 1, none⟩ = false) (hp0 : 0 ≤ p) (hp1 : p ≤ 1000000) (hk : k < 1 ∨ n = 0) :
    Calls Try.prog 42 #[.pointer (some ⟨g, 0, none⟩), .int .i64 k] w fun e w' => e = .returned (.int .i64 0) ∧ w.setCell ⟨g, 1, none⟩ (.int .i64 (p + 1)) = w' := by
  rcases hk with hk | hk
  · go_enter Try.func42, Try.ntmps42
    go_wp2
    go_ret
    exact ⟨rfl, rfl⟩
  · subst hk
    by_cases hk : k < 1
    · go_enter Try.func42, Try.ntmps42
      go_wp2
      go_ret
      exact ⟨rfl, rfl⟩
    · go_enter Try.func42, Try.ntmps42
      go_wp2
      go_ret
      exact ⟨rfl, rfl⟩
theorem pick_in (g n c : Nat) (ad : Addr) (p : Nat) (k z : Int) (w : World) (h0 : w.cell? ⟨g, 0, none⟩ = some (.slice (some ad) n c)) (h1 : w.cell? ⟨g, 1, none⟩ = some (.int .i64 p))
    (hf : w.frozen? ⟨g, 1, none⟩ = false) (hp1 : p ≤ 1000000) (hk : 1 ≤ k) (hn : p < n) (hn2 : n ≤ 2000) (hne : ad.block ≠ g) (hz : w.cell? (ad.add p) = some (.int .u8 z)) (hz0 : 0 ≤ z) (hz1 : z ≤ 255) :
    Calls Try.prog 42 #[.pointer (some ⟨g, 0, none⟩), .int .i64 k] w fun e w' => e = .returned (.int .i64 (z % k)) ∧ w.setCell ⟨g, 1, none⟩ (.int .i64 (p + 1)) = w' := by
  have e0 : ((n : Int) == 0) = false := by simp; omega
  have hz' : ∀ v, (w.setCell ⟨g, 1, none⟩ v).cell? (ad.add p) = some (.int .u8 z) := fun v => (cell_far (by rw [add_block]; exact hne) v).trans hz
  go_enter Try.func42, Try.ntmps42
  go_wp2
  go_ret
  exact ⟨rfl, rfl⟩
theorem bits_xor_i64_nat (a b : Nat) (ha : a < 9223372036854775808) (hb : b < 9223372036854775808) :
    bits .xor .i64 (a : Int) (b : Int) = ((a ^^^ b : Nat) : Int) := by
  have hx : a ^^^ b < 2 ^ 63 := Nat.xor_lt_two_pow (by omega) (by omega)
  have h1 : (BitVec.ofInt 64 (a : Int)).toNat = a := by
    rw [BitVec.ofInt_natCast, BitVec.toNat_ofNat]; exact Nat.mod_eq_of_lt (by omega)
  have h2 : (BitVec.ofInt 64 (b : Int)).toNat = b := by
    rw [BitVec.ofInt_natCast, BitVec.toNat_ofNat]; exact Nat.mod_eq_of_lt (by omega)
  show IntKind.i64.wrap ((BitVec.ofInt 64 (a : Int) ^^^ BitVec.ofInt 64 (b : Int)).toNat : Int) = _
  rw [BitVec.toNat_xor, h1, h2, IntWalk.i64_left, IntWalk.wrap64_in _ (by omega)]
theorem mix_nat (X : Nat) (k : Int) (hX : X < 4611686018427387904) (hk : 1 ≤ k) :
    0 ≤ (bits .xor .i64 (wrap64 X) (wrap64 ((wrap64 X).tdiv 64))).tmod k ∧ (bits .xor .i64 (wrap64 X) (wrap64 ((wrap64 X).tdiv 64))).tmod k < k := by
  rw [IntWalk.wrap64_in (X : Int) (by omega)]
  have e : (X : Int).tdiv 64 = ((X / 64 : Nat) : Int) := by rw [Int.tdiv_eq_ediv_of_nonneg (by omega)]; simp
  rw [e, IntWalk.wrap64_in _ (by omega), bits_xor_i64_nat _ _ (by omega) (by omega), Int.tmod_eq_emod_of_nonneg (by omega)]
  exact ⟨Int.emod_nonneg _ (by omega), Int.emod_lt_of_pos _ (by omega)⟩
theorem mix_in (z1 z2 : Int) (p n : Nat) (k : Int) (hk : 1 ≤ k) (b1 : 0 ≤ z1) (c1 : z1 ≤ 255) (b2 : 0 ≤ z2) (c2 : z2 ≤ 255) (hp : p ≤ 1000000) (hn : 0 < n) :
    0 ≤ (bits .xor .i64 (wrap64 (z1 * 131 + z2 * 1117 + p * 29 + wrap64 (wrap64 ((p : Int) / n) * 53))) (wrap64 ((wrap64 (z1 * 131 + z2 * 1117 + p * 29 + wrap64 (wrap64 ((p : Int) / n) * 53))).tdiv 64))).tmod k ∧
    (bits .xor .i64 (wrap64 (z1 * 131 + z2 * 1117 + p * 29 + wrap64 (wrap64 ((p : Int) / n) * 53))) (wrap64 ((wrap64 (z1 * 131 + z2 * 1117 + p * 29 + wrap64 (wrap64 ((p : Int) / n) * 53))).tdiv 64))).tmod k < k := by
  have e2 : p / n ≤ p := Nat.div_le_self p n
  obtain ⟨q, hq⟩ : ∃ q, p / n = q := ⟨_, rfl⟩
  have e1 : (p : Int) / n = (q : Int) := by rw [← hq]; exact (Int.natCast_ediv p n).symm
  rw [hq] at e2
  rw [e1, IntWalk.wrap64_in (q : Int) (by omega), IntWalk.wrap64_in ((q : Int) * 53) (by omega)]
  obtain ⟨X, hX⟩ : ∃ X : Nat, z1 * 131 + z2 * 1117 + (p : Int) * 29 + (q : Int) * 53 = X := ⟨(z1 * 131 + z2 * 1117 + (p : Int) * 29 + (q : Int) * 53).toNat, by omega⟩
  rw [hX]
  exact mix_nat X k (by omega) hk
theorem pick_past (g n c : Nat) (ad : Addr) (p : Nat) (k : Int) (w : World) (h0 : w.cell? ⟨g, 0, none⟩ = some (.slice (some ad) n c)) (h1 : w.cell? ⟨g, 1, none⟩ = some (.int .i64 p))
    (hf : w.frozen? ⟨g, 1, none⟩ = false) (hp1 : p ≤ 1000000) (hk : 1 ≤ k) (h0n : 0 < n) (hn : n ≤ p) (hn2 : n ≤ 2000) (hne : ad.block ≠ g)
    (hz : ∀ i, i < n → ∃ z : Int, w.cell? (ad.add i) = some (.int .u8 z) ∧ 0 ≤ z ∧ z ≤ 255) :
    Calls Try.prog 42 #[.pointer (some ⟨g, 0, none⟩), .int .i64 k] w fun e w' => SomeInt (fun v => 0 ≤ v ∧ v < k) (w.setCell ⟨g, 1, none⟩ (.int .i64 (p + 1))) e w' := by
  have e0 : ((n : Int) == 0) = false := by simp; omega
  obtain ⟨z1, a1, b1, c1⟩ := hz (p % n) (Nat.mod_lt _ h0n)
  obtain ⟨z2, a2, b2, c2⟩ := hz ((p * 7 + 3) % n) (Nat.mod_lt _ h0n)
  have f1 : ∀ v, (w.setCell ⟨g, 1, none⟩ v).cell? (ad.add (p % n)) = some (.int .u8 z1) := fun v => (cell_far (by rw [add_block]; exact hne) v).trans a1
  have f2 : ∀ v, (w.setCell ⟨g, 1, none⟩ v).cell? (ad.add ((p * 7 + 3) % n)) = some (.int .u8 z2) := fun v => (cell_far (by rw [add_block]; exact hne) v).trans a2
  clear hz a1 a2
  have g1 : 0 ≤ (p : Int) % n := by omega
  have g2 : (p : Int) % n < n := Int.emod_lt_of_pos _ (by omega)
  have g3 : 0 ≤ ((p : Int) * 7 + 3) % n := Int.emod_nonneg _ (by omega)
  have g4 : ((p : Int) * 7 + 3) % n < n := Int.emod_lt_of_pos _ (by omega)
  have t1 : ((p : Int) % n).toNat = p % n := by exact Int.toNat_natCast (p % n)
  have t2 : (((p : Int) * 7 + 3) % n).toNat = (p * 7 + 3) % n := by
    have : ((p : Int) * 7 + 3) = ((p * 7 + 3 : Nat) : Int) := by simp
    rw [this]; exact Int.toNat_natCast ((p * 7 + 3) % n)
  go_enter Try.func42, Try.ntmps42
  go_wp2
  go_quiet (fail)
  go_wp2
  go_ret
  refine ⟨_, _, ?_, rfl, rfl⟩
  exact mix_in z1 z2 p n k hk b1 c1 b2 c2 hp1 h0n
/-- a reader in block g, at most m bytes on, over a code below W's own blocks; all old memory as in W -/
structure Rd (W w : World) (g m : Nat) : Prop where
  bel : Below W.heap.size W w
  lo : W.heap.size ≤ g
  hd : ∃ (A : Option Addr) (n c p : Nat), w.heap[g]? = some (.cells #[.slice A n c, .int .i64 p] 63 (0, 0)) ∧ p ≤ m ∧ Code8 W W.heap.size A n
theorem Rd.lt {W w : World} {g m : Nat} (h : Rd W w g m) : g < w.heap.size := by
  obtain ⟨A, n, c, p, hh, _⟩ := h.hd
  rcases Nat.lt_or_ge g w.heap.size with hlt | hge
  · exact hlt
  · rw [Array.getElem?_eq_none hge] at hh; cases hh
theorem Rd.more {W w : World} {g m m' : Nat} (h : Rd W w g m) (hm : m ≤ m') : Rd W w g m' := by
  obtain ⟨A, n, c, p, hh, hp, hc⟩ := h.hd
  exact ⟨h.bel, h.lo, A, n, c, p, hh, by omega, hc⟩
theorem Rd.alloc {W w : World} {g m : Nat} (h : Rd W w g m) (o : Obj) : Rd W (w.alloc o) g m := by
  obtain ⟨A, n, c, p, hh, hp, hc⟩ := h.hd
  exact ⟨h.bel.alloc h.bel.size o, h.lo, A, n, c, p, (Below.heap_alloc w o g h.lt).trans hh, hp, hc⟩
theorem Rd.drew {W w : World} {g m : Nat} (h : Rd W w g m) : Rd W w.drew g m := ⟨h.bel.drew, h.lo, h.hd⟩
theorem Rd.drewN {W w : World} {g m : Nat} (h : Rd W w g m) (n : Nat) : Rd W (w.drewN n) g m :=
  ⟨⟨h.bel.os, h.bel.tape, h.bel.output, h.bel.size, h.bel.block⟩, h.lo, h.hd⟩
/-- only block g, and what is new, has turned: a store elsewhere keeps the reader -/
theorem Rd.grown {W w w' : World} {g m : Nat} {row : Option Nat} (h : Rd W w g m) (hg : w.grownBy w' row) (hne : some g ≠ row) (hr : ∀ k, row = some k → W.heap.size ≤ k) : Rd W w' g m := by
  obtain ⟨A, n, c, p, hh, hp, hc⟩ := h.hd
  exact ⟨h.bel.grown hg h.bel.size hr, h.lo, A, n, c, p, (hg.block g h.lt hne).trans hh, hp, hc⟩
theorem Rd.step {W w : World} {g m : Nat} {A : Option Addr} {n c p : Nat} (h : Rd W w g m) (hh : w.heap[g]? = some (.cells #[.slice A n c, .int .i64 p] 63 (0, 0))) (hp : p ≤ m) (hc : Code8 W W.heap.size A n) (q : Nat) :
    Rd W ((w.setCell ⟨g, 1, none⟩ (.int .i64 (p + 1))).drewN q) g (m + 1) := by
  refine Rd.drewN ⟨h.bel.setCell h.lo _, h.lo, A, n, c, p + 1, ?_, by omega, hc⟩ q
  simp [World.setCell, Array.getElem?_modify, hh]
def Picked (W w : World) (g m : Nat) (k : Int) (e : Ending) (w' : World) : Prop :=
  ∃ v : Int, 0 ≤ v ∧ (1 ≤ k → v < k) ∧ (k < 1 → v = 0) ∧ e = .returned (.int .i64 v) ∧ Rd W w' g (m + 1) ∧ w.grownBy w' (some g)
theorem pick_any (W w : World) (g m : Nat) (k : Int) (h : Rd W w g m) (hm : m ≤ 1000000) :
    Calls Try.prog 42 #[.pointer (some ⟨g, 0, none⟩), .int .i64 k] w (Picked W w g m k) := by
  obtain ⟨A, n, c, p, hh, hp, hc⟩ := h.hd
  obtain ⟨c0, c1, cf⟩ := cell_of_two hh
  by_cases hz : k < 1 ∨ n = 0
  · refine (pick_zero g n c A p k w c0 c1 cf (by omega) (by omega) hz).mono ?_
    rintro e w' ⟨rfl, rfl⟩
    exact ⟨0, by omega, by omega, fun _ => rfl, rfl, h.step hh hp hc 0, only_setCell' w g 1 _⟩
  · obtain ⟨hn2, hrow⟩ := hc
    obtain ⟨ad, rfl, hb, hcell⟩ := hrow (by omega)
    have hlo := h.lo
    have hcell' : ∀ i, i < n → ∃ z : Int, w.cell? (ad.add i) = some (.int .u8 z) ∧ 0 ≤ z ∧ z ≤ 255 := by
      intro i hi
      obtain ⟨z, a, b, d⟩ := hcell i hi
      exact ⟨z, (h.bel.cell (p := ad.add i) (by rw [add_block]; exact hb)).trans a, b, d⟩
    by_cases hlt : p < n
    · obtain ⟨z, a, b, d⟩ := hcell' p hlt
      refine (pick_in g n c ad p k z w c0 c1 cf (by omega) (by omega) hlt hn2 (by omega) a b d).mono ?_
      rintro e w' ⟨rfl, rfl⟩
      exact ⟨z % k, Int.emod_nonneg _ (by omega), fun _ => Int.emod_lt_of_pos _ (by omega), fun hk => by omega, rfl, h.step hh hp ⟨hn2, hrow⟩ 0, only_setCell' w g 1 _⟩
    · refine (pick_past g n c ad p k w c0 c1 cf (by omega) (by omega) (by omega) (by omega) hn2 (by omega) hcell').mono ?_
      rintro e w' ⟨v, q, ⟨hv0, hv1⟩, rfl, rfl⟩
      exact ⟨v, hv0, fun _ => hv1, fun hk => by omega, rfl, h.step hh hp ⟨hn2, hrow⟩ q, only_drewN (only_setCell' w g 1 _) q⟩
def OddOf (W w : World) (g m : Nat) (e : Ending) (w' : World) : Prop :=
  ∃ b : Bool, e = .returned (.bool b) ∧ Rd W w' g (m + 1) ∧ w.grownBy w' (some g)
theorem odd_any (W w : World) (g m : Nat) (k : Int) (h : Rd W w g m) (hm : m ≤ 1000000) (hk : -1000000 ≤ k) (hk2 : k ≤ 1000000) :
    Calls Try.prog 41 #[.pointer (some ⟨g, 0, none⟩), .int .i64 k] w (OddOf W w g m) := by
  by_cases hz : 0 < k
  · go_enter Try.func41, Try.ntmps41
    go_wp2_with (go_at_call 42; refine (pick_any W w g m k h hm).mono ?_; rintro e w' ⟨v, hv0, hv1, hv2, rfl, hr, hg⟩)
    go_ret
    exact ⟨_, rfl, hr, hg⟩
  · go_enter Try.func41, Try.ntmps41
    go_wp2
    go_ret
    exact ⟨_, rfl, h.more (by omega), grown_refl _ _⟩
end Go.Proofs.Ytoiglenodiomhaa
