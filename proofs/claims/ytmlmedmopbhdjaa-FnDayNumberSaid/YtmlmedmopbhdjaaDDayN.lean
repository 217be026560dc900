/-
  The verifier's own text: DDayN.
-/
import Derived.Test.YtmlmedmopbhdjaaRows
import Derived.Test.YtmlmedmopbhdjaaDMonth
import Derived.IntWalk
import Derived.WalkKit
import Derived.ProofKit
import Derived.Below
import Derived.Lib.Hide
import Derived.Outline
import Derived.BigQuiet
import Derived.Deep.QuietTactic
import Derived.Deep.Draws
import Derived.Laws.OwnMore
import Derived.Laws.Rows
import Derived.WalkSpells
import Derived.Deep.RegionWith
namespace Go.Proofs.Ytmlmedmopbhdjaa
open Go.RowKit
set_option linter.unusedVariables false
def DrawnInt3 (w : World) (e : Ending) (w' : World) : Prop := ∃ v u t : Int, e = .returned (.tuple #[.int .i64 v, .int .i64 u, .int .i64 t]) ∧ Below w.heap.size w w'
theorem CodeArg.below {w w' : World} {A : Option Addr} {n c : Nat} (h : CodeArg w A n c) (hb : Below w.heap.size w w') : CodeArg w' A n c := by
  obtain ⟨h1, h2, h3⟩ := h
  refine ⟨h1, h2, fun hn => ?_⟩
  obtain ⟨ad, e, hl, hc⟩ := h3 hn
  refine ⟨ad, e, Nat.lt_of_lt_of_le hl hb.size, fun i hi => ?_⟩
  obtain ⟨z, hz, b1, b2⟩ := hc i hi
  exact ⟨z, (hb.cell (p := ad.add i) (by rw [add_block]; exact hl)).trans hz, b1, b2⟩
theorem of_three (x y u : Int) (v : Int) (h0 : 0 ≤ v) (h1 : v < 3) : ∃ z : Int, (#[Value.int .i64 x, Value.int .i64 y, Value.int .i64 u] : Array Value)[v.toNat]? = some (.int .i64 z) ∧ (∀ h : v.toNat < [Value.int .i64 x, Value.int .i64 y, Value.int .i64 u].length, [Value.int .i64 x, Value.int .i64 y, Value.int .i64 u][v.toNat] = .int .i64 z) := by
  obtain rfl | rfl | rfl : v = 0 ∨ v = 1 ∨ v = 2 := by omega
  · exact ⟨_, rfl, fun _ => rfl⟩
  · exact ⟨_, rfl, fun _ => rfl⟩
  · exact ⟨_, rfl, fun _ => rfl⟩
theorem of_five (v : Int) (h0 : 0 ≤ v) (h1 : v < 5) : ∃ z : Int, 0 ≤ z ∧ z < 3 ∧ (#[Value.int .i64 0, Value.int .i64 0, Value.int .i64 1, Value.int .i64 1, Value.int .i64 2] : Array Value)[v.toNat]? = some (.int .i64 z) ∧ (∀ h : v.toNat < [Value.int .i64 0, Value.int .i64 0, Value.int .i64 1, Value.int .i64 1, Value.int .i64 2].length, [Value.int .i64 0, Value.int .i64 0, Value.int .i64 1, Value.int .i64 1, Value.int .i64 2][v.toNat] = .int .i64 z) := by
  obtain rfl | rfl | rfl | rfl | rfl : v = 0 ∨ v = 1 ∨ v = 2 ∨ v = 3 ∨ v = 4 := by omega
  · exact ⟨0, by omega, by omega, rfl, fun _ => rfl⟩
  · exact ⟨0, by omega, by omega, rfl, fun _ => rfl⟩
  · exact ⟨1, by omega, by omega, rfl, fun _ => rfl⟩
  · exact ⟨1, by omega, by omega, rfl, fun _ => rfl⟩
  · exact ⟨2, by omega, by omega, rfl, fun _ => rfl⟩
/-- a block that reads as A5 -/
def Is5 (w : World) (b : Nat) : Prop := ∀ i, w.cell? ⟨b, i, none⟩ = (#[Value.int .i64 0, Value.int .i64 0, Value.int .i64 1, Value.int .i64 1, Value.int .i64 2] : Array Value)[i]?
theorem Is5.lt {w : World} {b : Nat} (h : Is5 w b) : b < w.heap.size := block_lt_of_cell (h 0)
theorem Is5.alloc {w : World} {b : Nat} (h : Is5 w b) (o : Obj) : Is5 (w.alloc o) b := fun i => (World.cell?_alloc_lt w o ⟨b, i, none⟩ h.lt).trans (h i)
theorem Is5.keep {a w' : World} {g b : Nat} (h : Is5 a b) (hg : a.grownBy w' (some g)) (hne : g < b) : Is5 w' b := fun i => (kept_cell hg b i (by omega) h.lt).trans (h i)
theorem below_tr {a b c : World} (h : Below a.heap.size a b) (k : Below b.heap.size b c) : Below a.heap.size a c := h.trans (k.mono h.size)
set_option maxHeartbeats 4000000 in
theorem drawDay_any (w : World) (A : Option Addr) (n c : Nat) (h : CodeArg w A n c) : Calls Try.prog 20 #[.slice A n c] w (DrawnInt3 w) := by
  go_enter Try.func20, Try.ntmps20
  go_wp2_with fail
  refine (drawMonth_any w A n c h).mono ?_
  rintro e w1 ⟨y, m, rfl, hb1⟩
  have h1 := h.below hb1
  have hb1 := Lib.hid hb1
  clear h
  go_wp2_with (go_at_call 29; refine (open_any w1 A n c h1).mono ?_; rintro e w2 ⟨rfl, hr2⟩)
  have hlt2 := hr2.lt
  go_region_with (first
    | (go_at_call 30; ((with_reducible refine (pick_any w1 _ w1.heap.size 0 31 hr2.drew (by omega)).mono ?_); rintro e w3 ⟨v1, a1, b1, _, rfl, hr3, hg3⟩; have b1 := b1 (by omega); have x1 := IntWalk.i64_in (1 + v1) (by omega); have hlt3 := hr3.lt; (first | (have K := Lib.hid (show Is5 w3 w2.heap.size from fun i => kept_one hg3 hlt2 i)) | skip)))
    | (go_at_call 30; ((with_reducible refine (pick_any w1 _ w1.heap.size 0 31 (hr2.alloc _).drew (by omega)).mono ?_); rintro e w3 ⟨v1, a1, b1, _, rfl, hr3, hg3⟩; have b1 := b1 (by omega); have x1 := IntWalk.i64_in (1 + v1) (by omega); have hlt3 := hr3.lt; (first | (have K := Lib.hid (show Is5 w3 w2.heap.size from fun i => kept_one hg3 hlt2 i)) | skip)))
    | (go_at_call 30; ((with_reducible refine (pick_any w1 _ w1.heap.size 1 4 hr3 (by omega)).mono ?_); rintro e w4 ⟨v2, a2, b2, _, rfl, hr4, hg4⟩; have b2 := b2 (by omega); have x2 := IntWalk.i64_in (28 + v2) (by omega); have hlt4 := hr4.lt; (first | (have K := Lib.hid (show Is5 w4 w2.heap.size from K.out.keep hg4 hlt2)) | (have K := Lib.hid (show Is5 w4 w3.heap.size from fun i => cell_kept hg4 hlt3 i)) | skip)))
    | (go_at_call 30; ((with_reducible refine (pick_any w1 _ w1.heap.size 1 4 (hr3.alloc _) (by omega)).mono ?_); rintro e w4 ⟨v2, a2, b2, _, rfl, hr4, hg4⟩; have b2 := b2 (by omega); have x2 := IntWalk.i64_in (28 + v2) (by omega); have hlt4 := hr4.lt; (first | (have K := Lib.hid (show Is5 w4 w2.heap.size from K.out.keep hg4 hlt2)) | (have K := Lib.hid (show Is5 w4 w3.heap.size from fun i => cell_kept hg4 hlt3 i)) | skip)))
    | (go_at_call 30; ((with_reducible refine (pick_any w1 _ w1.heap.size 2 5 hr4 (by omega)).mono ?_); rintro e w5 ⟨v3, a3, b3, _, rfl, hr5, hg5⟩; have b3 := b3 (by omega); obtain ⟨z2, z20, z21, hf, hf'⟩ := of_five v3 a3 b3; obtain ⟨z1, he, he'⟩ := of_three (1 + v1) (28 + v2) 0 z2 z20 z21; (first | (have q5 := K.out.keep hg5 (by omega); have l5 := q5.lt; have k5 := q5 v3.toNat; rw [hf] at k5; trace "k5 A") | (have q5 := (K.out.alloc _).keep hg5 (by omega); have l5 := q5.lt; have k5 := q5 v3.toNat; rw [hf] at k5; trace "k5 A2") | (have k5 := (show Is5 w5 w4.heap.size from fun i => cell_kept hg5 hlt4 i) v3.toNat; rw [hf] at k5; trace "k5 B") | (have k5 := (show Is5 w5 (w4.heap.size + 1) from fun i => kept_two' hg5 hlt4 i) v3.toNat; rw [hf] at k5; trace "k5 C") | (have k5 := (show Is5 w5 w4.heap.size from fun i => kept_two1 hg5 hlt4 i) v3.toNat; rw [hf] at k5; trace "k5 D") | trace "k5 none"); (first | (have hs5 : w4.heap.size + 1 < w5.heap.size := by have := hg5.size; simp at this; omega) | (have hs5 : w4.heap.size < w5.heap.size := by have := hg5.size; simp at this; omega) | skip); (first | (have k3 := cell_kept hg5 hlt4 z2.toNat; rw [he] at k3; trace "k3 A") | (have k3 := kept_two' hg5 hlt4 z2.toNat; rw [he] at k3; trace "k3 B") | (have k3 := kept_two1 hg5 hlt4 z2.toNat; rw [he] at k3; trace "k3 C") | trace "k3 none")))
    | (go_at_call 30; ((with_reducible refine (pick_any w1 _ w1.heap.size 2 5 (hr4.alloc _) (by omega)).mono ?_); rintro e w5 ⟨v3, a3, b3, _, rfl, hr5, hg5⟩; have b3 := b3 (by omega); obtain ⟨z2, z20, z21, hf, hf'⟩ := of_five v3 a3 b3; obtain ⟨z1, he, he'⟩ := of_three (1 + v1) (28 + v2) 0 z2 z20 z21; (first | (have q5 := K.out.keep hg5 (by omega); have l5 := q5.lt; have k5 := q5 v3.toNat; rw [hf] at k5; trace "k5 A") | (have q5 := (K.out.alloc _).keep hg5 (by omega); have l5 := q5.lt; have k5 := q5 v3.toNat; rw [hf] at k5; trace "k5 A2") | (have k5 := (show Is5 w5 w4.heap.size from fun i => cell_kept hg5 hlt4 i) v3.toNat; rw [hf] at k5; trace "k5 B") | (have k5 := (show Is5 w5 (w4.heap.size + 1) from fun i => kept_two' hg5 hlt4 i) v3.toNat; rw [hf] at k5; trace "k5 C") | (have k5 := (show Is5 w5 w4.heap.size from fun i => kept_two1 hg5 hlt4 i) v3.toNat; rw [hf] at k5; trace "k5 D") | trace "k5 none"); (first | (have hs5 : w4.heap.size + 1 < w5.heap.size := by have := hg5.size; simp at this; omega) | (have hs5 : w4.heap.size < w5.heap.size := by have := hg5.size; simp at this; omega) | skip); (first | (have k3 := cell_kept hg5 hlt4 z2.toNat; rw [he] at k3; trace "k3 A") | (have k3 := kept_two' hg5 hlt4 z2.toNat; rw [he] at k3; trace "k3 B") | (have k3 := kept_two1 hg5 hlt4 z2.toNat; rw [he] at k3; trace "k3 C") | trace "k3 none")))
    | (go_at_call 30; ((with_reducible refine (pick_any w1 _ w1.heap.size 2 5 ((hr4.alloc _).alloc _) (by omega)).mono ?_); rintro e w5 ⟨v3, a3, b3, _, rfl, hr5, hg5⟩; have b3 := b3 (by omega); obtain ⟨z2, z20, z21, hf, hf'⟩ := of_five v3 a3 b3; obtain ⟨z1, he, he'⟩ := of_three (1 + v1) (28 + v2) 0 z2 z20 z21; (first | (have q5 := K.out.keep hg5 (by omega); have l5 := q5.lt; have k5 := q5 v3.toNat; rw [hf] at k5; trace "k5 A") | (have q5 := (K.out.alloc _).keep hg5 (by omega); have l5 := q5.lt; have k5 := q5 v3.toNat; rw [hf] at k5; trace "k5 A2") | (have k5 := (show Is5 w5 w4.heap.size from fun i => cell_kept hg5 hlt4 i) v3.toNat; rw [hf] at k5; trace "k5 B") | (have k5 := (show Is5 w5 (w4.heap.size + 1) from fun i => kept_two' hg5 hlt4 i) v3.toNat; rw [hf] at k5; trace "k5 C") | (have k5 := (show Is5 w5 w4.heap.size from fun i => kept_two1 hg5 hlt4 i) v3.toNat; rw [hf] at k5; trace "k5 D") | trace "k5 none"); (first | (have hs5 : w4.heap.size + 1 < w5.heap.size := by have := hg5.size; simp at this; omega) | (have hs5 : w4.heap.size < w5.heap.size := by have := hg5.size; simp at this; omega) | skip); (first | (have k3 := cell_kept hg5 hlt4 z2.toNat; rw [he] at k3; trace "k3 A") | (have k3 := kept_two' hg5 hlt4 z2.toNat; rw [he] at k3; trace "k3 B") | (have k3 := kept_two1 hg5 hlt4 z2.toNat; rw [he] at k3; trace "k3 C") | trace "k3 none"))))
  all_goals
    go_wp2
    go_ret3
    exact ⟨_, _, _, rfl, below_tr hb1.out (by first | exact hr5.bel | exact hr5.bel.alloc hr5.bel.size _ | exact (hr5.bel.alloc hr5.bel.size _).alloc (Nat.le_trans hr5.bel.size (by simp)) _)⟩
end Go.Proofs.Ytmlmedmopbhdjaa
