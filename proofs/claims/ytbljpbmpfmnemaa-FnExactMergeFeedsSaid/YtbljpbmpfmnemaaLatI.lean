/-
  The verifier's own text: LatI.
-/
import Derived.Test.YtbljpbmpfmnemaaRows
import Derived.Test.YtbljpbmpfmnemaaBothI
import Derived.Test.YtbljpbmpfmnemaaGv
import Derived.WalkKit
import Derived.ProofKit
import Derived.Below
import Derived.Lib.Hide
import Derived.Outline
import Derived.BigQuiet
import Derived.Deep.QuietTactic
import Derived.Deep.Draws
import Derived.Laws.OwnMore
import Derived.Laws.Rows
import Derived.WalkSpells
import Derived.Deep.RegionWith
namespace Go.Proofs.Ytbljpbmpfmnemaa
open Go.RowKit
set_option linter.unusedVariables false
set_option maxRecDepth 100000 in
set_option maxHeartbeats 4000000 in
theorem latI_any (ky ti bo : ByteArray) (da : Int) (u : Value) (B : List It) (w : World) (hB : RdG encI w u B) (i : It) (hi : mrgI B ⟨ky, ti, bo, da⟩ = i) :
    Calls Try.prog 51 #[.agg #[.string ky, .string ti, .string bo, .int .i64 da], u] w (fun e w' => e = .returned (.agg #[.string i.key, .string i.title, .string i.body, .int .i64 i.day]) ∧ Below w.heap.size w w') := by
  obtain ⟨w1, hw1⟩ : ∃ w1, w.alloc (.cells #[.string ky, .string ti, .string bo, .int .i64 da] 30) = w1 := ⟨_, rfl⟩
  have hb01 : Below w.heap.size w w1 := by rw [← hw1]; exact (Below.refl _ _).alloc (Nat.le_refl _) _
  have hrow := Lib.hid (fun wX hX => row4 (wX := wX) hw1 hX)
  obtain ⟨w2, hw2⟩ : ∃ w2, w1.alloc (.cells #[.string ⟨#[]⟩, .string ⟨#[]⟩, .string ⟨#[]⟩, .int .i64 0] 30) = w2 := ⟨_, rfl⟩
  have hb12 : Below w1.heap.size w1 w2 := by rw [← hw2]; exact (Below.refl _ _).alloc (Nat.le_refl _) _
  have hfin := Lib.hid (fun wX hX => zeroI (wX := wX) hw2 hX)
  have hrd2 := hB.below (below_trans' hb01 hb12)
  obtain ⟨d0, d1, d2, d3⟩ := hrow.out _ hb12
  have h01 := Lib.hid hb01
  have h12 := Lib.hid hb12
  clear hB hb01 hb12
  go_enter Try.func51, Try.ntmps51
  go_wp2_with fail
  have hw1 := Lib.hid hw1
  have hw2 := Lib.hid hw2
  refine (fwI_any u B ky _ hrd2).mono ?_
  rintro e w3 ⟨rfl, hb3⟩
  have hX3 := Lib.hid hb3
  clear hb3 d0 d1 d2 d3 hrd2
  obtain ⟨x0, x1, x2, x3, q, hq⟩ : ∃ x0 x1 x2 x3 q, itW1 B ky = (⟨x0, x1, x2, x3⟩, q) := ⟨_, _, _, _, _, rfl⟩
  unfold mrgI at hi
  simp only [hq] at hi
  rw [hq]
  clear hq
  obtain ⟨w4, hw4⟩ : ∃ w4, w3.alloc (.cells #[.string x0, .string x1, .string x2, .int .i64 x3] 30) = w4 := ⟨_, rfl⟩
  have hX4 : Hid (Below w2.heap.size w2 w4) := Lib.hid (by rw [← hw4]; exact hX3.out.alloc hX3.out.size _)
  obtain ⟨e0, e1, e2, e3⟩ := row4 hw4 (Below.refl _ _)
  obtain ⟨d0, d1, d2, d3⟩ := hrow.out _ (below_trans' h12.out hX4.out)
  obtain ⟨z0, z1, z2, z3, zf, hbw⟩ := hfin.out w4 hX4.out
  have HBw := Lib.hid (below_trans' h01.out hbw)
  have hsz := h01.out.size
  clear hbw
  dsimp only
  cases q with
  | true =>
    simp only [if_true] at hi
    subst hi
    go_wp2
    refine bodyPost_ret (v := .agg #[.string x0, .string x1, .string x2, .int .i64 x3]) (by simp [results, Try.results51, go_sem, z0, z1, z2, z3]) rfl ⟨rfl, ?_⟩
    exact (((HBw.out.setCell hsz _).setCell hsz _).setCell hsz _).setCell hsz _
  | false =>
    simp only [Bool.false_eq_true, if_false] at hi
    subst hi
    go_wp2
    refine bodyPost_ret (v := .agg #[.string ky, .string ti, .string bo, .int .i64 da]) (by simp [results, Try.results51, go_sem, z0, z1, z2, z3]) rfl ⟨rfl, ?_⟩
    exact (((HBw.out.setCell hsz _).setCell hsz _).setCell hsz _).setCell hsz _
end Go.Proofs.Ytbljpbmpfmnemaa
