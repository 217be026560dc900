/-
  The verifier's own text: NewI.
-/
import Derived.Test.YtbljpbmpfmnemaaRows
import Derived.Test.YtbljpbmpfmnemaaBothI
import Derived.Test.YtbljpbmpfmnemaaGt
import Derived.Test.YtbljpbmpfmnemaaGv
import Derived.WalkKit
import Derived.ProofKit
import Derived.Below
import Derived.Lib.Hide
import Derived.Outline
import Derived.BigQuiet
import Derived.Deep.QuietTactic
import Derived.Deep.Draws
import Derived.Laws.OwnMore
import Derived.Laws.Rows
import Derived.WalkSpells
import Derived.Deep.RegionWith
namespace Go.Proofs.Ytbljpbmpfmnemaa
open Go.RowKit
set_option linter.unusedVariables false
set_option maxRecDepth 100000 in
set_option maxHeartbeats 4000000 in
theorem chI_new (v u : Value) (A B : List It) (w : World) (hA : RdG encI w v A) (hB : RdG encI w u B) (fa : FitF A) (fb : FitF B) :
    Calls Try.prog 18 #[v, u] w (GotOwnF (newF A B) w) := by
  have hboth := Lib.hid (bothI_any v u A B w hA hB fa fb)
  rcases hF : (fdB A && fdB B) with _ | _
  · have HB := Lib.hid hF
    have HR := Lib.hid (newF_out hF)
    clear hF
    go_enter Try.func18, Try.ntmps18
    go_wp2_with (go_at_call 48; refine hboth.out.mono ?_; rintro e w1 ⟨rfl, hb1⟩; rw [HB.out])
    go_ret
    exact ⟨_, rfl, by rw [HR.out]; exact ownG_nil _ _ _ _ _, hb1⟩
  · have HB := Lib.hid hF
    have HX := Lib.hid (newF_in (both_iff.1 hF).1 (both_iff.1 hF).2)
    have h8 := (fdB_of (both_iff.1 hF).2).1
    clear hF
    by_cases hL : B = []
    · subst hL
      obtain ⟨A0, c, rfl, hc⟩ := hB.nil
      go_enter Try.func18, Try.ntmps18
      go_wp2_with (first | (go_at_call 48; refine hboth.out.mono ?_; rintro e w1 ⟨rfl, hb1⟩; rw [HB.out]) | (at_make; refine make_items rfl _ _ rfl 0 rfl rfl (by omega) ?_; intro w2 hown0 hb0))
      refine wp_loop_rounds 1 ?_
      rw [rounds_succ]; go_wp2
      go_ret
      exact ⟨_, rfl, by rw [HX.out]; exact OwnG.base hown0 hb1.size, below_trans' hb1 hb0⟩
    · have hrdA := Lib.hid hA
      obtain ⟨b, o, c, rfl, h1, h2, hb, h4⟩ := hB.some hL
      unfold maxLen at h2
      have hcells := Lib.hid (fun k (hk : k < B.length) => rdI_cells h4 hk)
      clear h4 hL hA hB
      go_enter Try.func18, Try.ntmps18
      go_wp2_with (first | (go_at_call 48; refine hboth.out.mono ?_; rintro e w1 ⟨rfl, hb1⟩; rw [HB.out]) | (at_make; refine make_items rfl _ _ rfl B.length rfl rfl (by omega) ?_; intro w2 hown0 hb0))
      have hb2 := Lib.hid (below_trans' hb1 hb0)
      have hown2 := Lib.hid (OwnG.base hown0 hb1.size)
      clear hb1 hb0 hown0
      go_loopw [5, 19] (fun x i wr => ∃ (k : Nat) (y : Value), k ≤ B.length ∧ i = .int .i64 k ∧ y = x ∧ Hid (OwnF wr w.heap.size y ((B.take k).filter (newP A))) ∧ Hid (Below w.heap.size w wr)) (fun _ i _ => B.length - (intOf i).toNat)
      case atStart => exact ⟨0, _, Nat.zero_le _, rfl, rfl, hown2, hb2⟩
      case round =>
        obtain ⟨k, y, hk, rfl, rfl, hown, hbr⟩ := hrel
        by_cases hlt : k < B.length
        · obtain ⟨c0, c1, c2, c3⟩ := rdI_at hcells.out hb hbr.out hlt
          have hmt := Lib.hid (filter_take (p := newP A) hlt)
          have hll : ((B.take k).filter (newP A)).length ≤ 1073741824 := by have := List.length_filter_le (newP A) (B.take k); rw [List.length_take] at this; omega
          obtain ⟨e, he⟩ : ∃ e, B[k] = e := ⟨_, rfl⟩
          rw [he] at c0 c1 c2 c3 hmt
          obtain ⟨ky, ti, bo, da⟩ := e
          simp only at c0 c1 c2 c3
          have hj0 : (0 : Int) ≤ (k : Int) := by omega
          have hjj : (k : Int) < (B.length : Int) := by omega
          obtain ⟨w3, hw3⟩ : ∃ w3, wr.alloc (.cells #[.string ky, .string ti, .string bo, .int .i64 da] 30) = w3 := ⟨_, rfl⟩
          have hB3 : Hid (Below w.heap.size w w3) := Lib.hid (by rw [← hw3]; exact hbr.out.alloc hbr.out.size _)
          have hown3 : Hid (OwnF w3 w.heap.size y _) := Lib.hid (by rw [← hw3]; exact OwnG.grown hown.out ((Below.refl _ _).alloc (Nat.le_refl _) _))
          have hrd3 := hrdA.out.below hB3.out
          obtain ⟨d0, d1, d2, d3⟩ := row4 hw3 (Below.refl _ _)
          have hrw := Lib.hid (fun wX hX => row4 (wX := wX) hw3 hX)
          clear he
          go_wp2_with fail
          refine (fwI_any v A ky _ hrd3).mono ?_
          rintro e w4 ⟨rfl, hb4⟩
          have hX4 := Lib.hid hb4
          have hB4 := Lib.hid (below_trans' hB3.out hb4)
          have hown4 := Lib.hid (OwnG.grown hown3.out hb4)
          clear hb4 c0 c1 c2 c3 d0 d1 d2 d3
          obtain ⟨x0, x1, x2, x3, q, hq⟩ : ∃ x0 x1 x2 x3 q, itW1 A ky = (⟨x0, x1, x2, x3⟩, q) := ⟨_, _, _, _, _, rfl⟩
          have hnp : Hid (newP A ⟨ky, ti, bo, da⟩ = !q) := Lib.hid (by unfold newP; rw [hq])
          rw [hq]
          clear hq
          obtain ⟨w6, hw6⟩ : ∃ w6, w4.alloc (.cells #[.string x0, .string x1, .string x2, .int .i64 x3] 30) = w6 := ⟨_, rfl⟩
          have hX6 : Hid (Below w3.heap.size w3 w6) := Lib.hid (by rw [← hw6]; exact hX4.out.alloc hX4.out.size _)
          have hB6 := Lib.hid (below_trans' hB3.out hX6.out)
          have hown6 : Hid (OwnF w6 w.heap.size y _) := Lib.hid (by rw [← hw6]; exact OwnG.grown hown4.out ((Below.refl _ _).alloc (Nat.le_refl _) _))
          obtain ⟨d0, d1, d2, d3⟩ := hrw.out _ hX6.out
          dsimp only
          cases q with
          | true =>
            have HN : Hid (OwnF w6 w.heap.size y ((B.take (k + 1)).filter (newP A))) := Lib.hid (by rw [hmt.out, hnp.out]; simpa using hown6.out)
            go_wp2
            go_roundw
            case rel => exact ⟨k + 1, _, by omega, by go_num, rfl, HN, hB6⟩
            case measure => simp [intOf]; omega
          | false =>
            have hsz6 := hB6.out.size
            go_wp2_with (at_builtin; refine app_item rfl (.tmp 32) (.tmp 34) rfl w.heap.size _ ((B.take k).filter (newP A)) ky ti bo da rfl hown6.out hsz6 _ rfl rfl hll ?_; intro v7 w7 hown7 hg7; have hB7 := Lib.hid (own_below hown6.out hB6.out hg7); have hown7 := Lib.hid hown7; clear hg7)
            have HN : Hid (OwnF w7 w.heap.size v7 ((B.take (k + 1)).filter (newP A))) := Lib.hid (by rw [hmt.out, hnp.out]; simpa using hown7.out)
            go_roundw
            case rel => exact ⟨k + 1, _, by omega, by go_num, rfl, HN, hB7⟩
            case measure => simp [intOf]; omega
        · have HR : Hid (newF A B = (B.take k).filter (newP A)) := Lib.hid (by rw [HX.out, List.take_of_length_le (by omega)])
          go_wp2
          go_ret
          exact ⟨_, rfl, by rw [HR.out]; exact hown.out, hbr.out⟩
end Go.Proofs.Ytbljpbmpfmnemaa
