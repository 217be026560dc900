/-
  The verifier's own text: ChgS.
-/
import Derived.Test.YtbljpbmpfmnemaaRows
import Derived.Test.YtbljpbmpfmnemaaNewS
import Derived.WalkKit
import Derived.ProofKit
import Derived.Below
import Derived.Lib.Hide
import Derived.Outline
import Derived.BigQuiet
import Derived.Deep.QuietTactic
import Derived.Deep.Draws
import Derived.Laws.OwnMore
import Derived.Laws.Rows
import Derived.WalkSpells
import Derived.Deep.RegionWith
namespace Go.Proofs.Ytbljpbmpfmnemaa
open Go.RowKit
set_option linter.unusedVariables false
theorem itNe {x0 x1 x2 y0 y1 y2 : ByteArray} {x3 y3 : Int} (h : ¬ (⟨x0, x1, x2, x3⟩ : It) = ⟨y0, y1, y2, y3⟩) :
    (x0.toList == y0.toList) = false ∨ ((x0.toList == y0.toList) = true ∧ (x1.toList == y1.toList) = false) ∨ ((x0.toList == y0.toList) = true ∧ (x1.toList == y1.toList) = true ∧ (x2.toList == y2.toList) = false) ∨ ((x0.toList == y0.toList) = true ∧ (x1.toList == y1.toList) = true ∧ (x2.toList == y2.toList) = true ∧ (x3 == y3) = false) := by
  by_cases h0 : x0 = y0
  · by_cases h1 : x1 = y1
    · by_cases h2 : x2 = y2
      · by_cases h3 : x3 = y3
        · exact absurd (by rw [h0, h1, h2, h3]) h
        · exact .inr (.inr (.inr ⟨str_same h0, str_same h1, str_same h2, by rw [beq_eq_false_iff_ne]; exact h3⟩))
      · exact .inr (.inr (.inl ⟨str_same h0, str_same h1, str_other h2⟩))
    · exact .inr (.inl ⟨str_same h0, str_other h1⟩)
  · exact .inl (str_other h0)
set_option maxRecDepth 100000 in
set_option maxHeartbeats 4000000 in
theorem chS_chg (v u : Value) (A B : List It) (w : World) (hA : RdG encI w v A) (hB : RdG encI w u B) (fa : FitF A) (fb : FitF B) :
    Calls Try.prog 24 #[v, u] w (GotOwnF (chgF A B) w) := by
  have hown0 := Lib.hid (own_none w w.heap.size (Nat.le_refl _))
  have hb0 : Hid (Below w.heap.size w (w.alloc (.cells #[] 30))) := Lib.hid ((Below.refl _ _).alloc (Nat.le_refl _) _)
  by_cases hL : B = []
  · subst hL
    obtain ⟨ad, c, rfl, hc⟩ := hB.nil
    go_enter Try.func24, Try.ntmps24
    go_wp2
    refine wp_loop_rounds 1 ?_
    rw [rounds_succ]; go_wp2
    go_ret
    exact ⟨_, rfl, by unfold chgF; split <;> exact hown0.out, hb0.out⟩
  · have hpos : 0 < B.length := List.length_pos_iff.2 hL
    have hrdA := Lib.hid hA
    have hrdB := Lib.hid hB
    obtain ⟨b, o, c, rfl, h1, h2, hb, h4⟩ := hB.some hL
    unfold maxLen at h2
    have hcells := Lib.hid (fun k (hk : k < B.length) => rdI_cells h4 hk)
    clear h4 hL hA hB
    go_enter Try.func24, Try.ntmps24
    go_wp2
    go_loopw [5, 6] (fun x i wr => ∃ (k : Nat) (y : Value), k ≤ B.length ∧ i = .int .i64 k ∧ y = x ∧ Hid (k = 0 ∨ (fdB A && fdB B) = true) ∧ Hid (OwnF wr w.heap.size y ((B.take k).filter (chgP A))) ∧ Hid (Below w.heap.size w wr)) (fun _ i _ => B.length - (intOf i).toNat)
    case atStart => exact ⟨0, _, Nat.zero_le _, rfl, rfl, Lib.hid (.inl rfl), hown0, hb0⟩
    case round =>
      obtain ⟨k, y, hk, rfl, rfl, hp, hown, hbr⟩ := hrel
      by_cases hlt : k < B.length
      · have hj0 : (0 : Int) ≤ (k : Int) := by omega
        have hjj : (k : Int) < (B.length : Int) := by omega
        have hrdr := hrdA.out.below hbr.out
        go_wp2_with fail
        refine (fdS_valid v A _ hrdr fa).mono ?_
        rintro e w3 ⟨rfl, hb3⟩
        have hB3 := Lib.hid (below_trans' hbr.out hb3)
        have hown3 := Lib.hid (OwnG.grown hown.out hb3)
        clear hb3 hrdr hown hbr
        rcases hFA : fdB A with _ | _
        · have hk0 : k = 0 := by
            rcases hp.out with h | h
            · exact h
            · rw [hFA] at h; cases h
          have HR : Hid (chgF A B = (B.take k).filter (chgP A)) := Lib.hid (by rw [chgF_out (by rw [hFA]; rfl), hk0]; rfl)
          clear hFA hk0
          go_wp2
          go_ret
          exact ⟨_, rfl, by rw [HR.out]; exact hown3.out, hB3.out⟩
        · have hrdr := hrdB.out.below hB3.out
          have HA := Lib.hid hFA
          clear hFA
          go_wp2_with fail
          refine (fdS_valid _ B _ hrdr fb).mono ?_
          rintro e w4 ⟨rfl, hb4⟩
          have hB4 := Lib.hid (below_trans' hB3.out hb4)
          have hown4 := Lib.hid (OwnG.grown hown3.out hb4)
          clear hb4 hrdr hown3 hB3
          rcases hFB : fdB B with _ | _
          · have hk0 : k = 0 := by
              rcases hp.out with h | h
              · exact h
              · rw [hFB, HA.out] at h; cases h
            have HR : Hid (chgF A B = (B.take k).filter (chgP A)) := Lib.hid (by rw [chgF_out (by rw [hFB, HA.out]; rfl), hk0]; rfl)
            clear hFB hk0
            go_wp2
            go_ret
            exact ⟨_, rfl, by rw [HR.out]; exact hown4.out, hB4.out⟩
          · have h8 := (fdB_of hFB).1
            have HF : Hid ((fdB A && fdB B) = true) := Lib.hid (by rw [HA.out, hFB]; rfl)
            have hrdr := hrdA.out.below hB4.out
            have hrwL := Lib.hid (fun wX (hX : Below w.heap.size w wX) => rdI_at hcells.out hb hX hlt)
            have hmt := Lib.hid (filter_take (p := chgP A) hlt)
            have hll : ((B.take k).filter (chgP A)).length ≤ 1073741824 := by have := List.length_filter_le (chgP A) (B.take k); rw [List.length_take] at this; omega
            obtain ⟨e, he⟩ : ∃ e, B[k] = e := ⟨_, rfl⟩
            rw [he] at hrwL hmt
            obtain ⟨ky, ti, bo, da⟩ := e
            simp only at hrwL
            obtain ⟨c0, c1, c2, c3⟩ := hrwL.out _ hB4.out
            clear he hFB hp
            go_wp2_with fail
            refine (fdS_with v A ky _ hrdr fa).mono ?_
            rintro e w5 ⟨rfl, hb5⟩
            have hB5 := Lib.hid (below_trans' hB4.out hb5)
            have hown5 := Lib.hid (OwnG.grown hown4.out hb5)
            clear hb5 hrdr hown4 hB4 c0 c1 c2 c3
            rw [itW_in ky HA.out]
            obtain ⟨x0, x1, x2, x3, q, hq⟩ : ∃ x0 x1 x2 x3 q, itW1 A ky = (⟨x0, x1, x2, x3⟩, q) := ⟨_, _, _, _, _, rfl⟩
            have hnp : Hid (chgP A ⟨ky, ti, bo, da⟩ = (q && !decide ((⟨x0, x1, x2, x3⟩ : It) = ⟨ky, ti, bo, da⟩))) := Lib.hid (by unfold chgP; rw [hq])
            rw [hq]
            clear hq
            obtain ⟨w6, hw6⟩ : ∃ w6, w5.alloc (.cells #[.string x0, .string x1, .string x2, .int .i64 x3] 30) = w6 := ⟨_, rfl⟩
            have hB6 : Hid (Below w.heap.size w w6) := Lib.hid (by rw [← hw6]; exact hB5.out.alloc hB5.out.size _)
            have hown6 : Hid (OwnF w6 w.heap.size y _) := Lib.hid (by rw [← hw6]; exact OwnG.grown hown5.out ((Below.refl _ _).alloc (Nat.le_refl _) _))
            obtain ⟨c0, c1, c2, c3⟩ := hrwL.out _ hB6.out
            obtain ⟨d0, d1, d2, d3⟩ := row4 hw6 (Below.refl _ _)
            dsimp only
            cases q with
            | false =>
              have HN : Hid (OwnF w6 w.heap.size y ((B.take (k + 1)).filter (chgP A))) := Lib.hid (by rw [hmt.out, hnp.out]; simpa using hown6.out)
              go_wp2
              go_quiet (fail)
              go_wp2
              go_roundw
              case rel => exact ⟨k + 1, _, by omega, by go_num, rfl, Lib.hid (.inr HF.out), Lib.hid (OwnG.grown HN.out (Below.drawn (Below.refl _ _) _)), Lib.hid (Below.drawn hB6.out _)⟩
              case measure => simp [intOf]; omega
            | true =>
              by_cases e : (⟨x0, x1, x2, x3⟩ : It) = ⟨ky, ti, bo, da⟩
              · have HN : Hid (OwnF w6 w.heap.size y ((B.take (k + 1)).filter (chgP A))) := Lib.hid (by rw [hmt.out, hnp.out, e]; simpa using hown6.out)
                obtain ⟨rfl, rfl, rfl, rfl⟩ : x0 = ky ∧ x1 = ti ∧ x2 = bo ∧ x3 = da := by injection e with a b c d; exact ⟨a, b, c, d⟩
                have q1 := str_same (a := x0) (b := x0) rfl
                have q2 := str_same (a := x1) (b := x1) rfl
                have q3 := str_same (a := x2) (b := x2) rfl
                have q4 : (x3 == x3) = true := by simp
                go_wp2
                go_quiet (fail)
                go_wp2
                go_roundw
                case rel => exact ⟨k + 1, _, by omega, by go_num, rfl, Lib.hid (.inr HF.out), Lib.hid (OwnG.grown HN.out (Below.drawn (Below.refl _ _) _)), Lib.hid (Below.drawn hB6.out _)⟩
                case measure => simp [intOf]; omega
              · have hnd : Hid (decide ((⟨x0, x1, x2, x3⟩ : It) = ⟨ky, ti, bo, da⟩) = false) := Lib.hid (decide_eq_false e)
                rcases itNe e with ⟨q1⟩ | ⟨q1, q2⟩ | ⟨q1, q2, q3⟩ | ⟨q1, q2, q3, q4⟩
                all_goals
                  go_wp2
                  go_quiet (fail)
                  have hB7 := Lib.hid (Below.drawn hB6.out nq)
                  have hown7 := Lib.hid (OwnG.grown hown6.out (Below.drawn (Below.refl _ _) nq))
                  obtain ⟨w7, hw7⟩ : ∃ w7, w6.drewN nq = w7 := ⟨_, rfl⟩
                  rw [hw7] at hB7 hown7 ⊢
                  clear hw7 c0 c1 c2 c3 d0 d1 d2 d3
                  obtain ⟨c0, c1, c2, c3⟩ := hrwL.out _ hB7.out
                  have hsz7 := hB7.out.size
                  go_wp2_with (at_builtin; refine app_item rfl (.tmp 43) (.tmp 48) rfl w.heap.size _ ((B.take k).filter (chgP A)) ky ti bo da rfl hown7.out hsz7 _ rfl rfl hll ?_; intro v8 w8 hown8 hg8; have hB8 := Lib.hid (own_below hown7.out hB7.out hg8); have hown8 := Lib.hid hown8; clear hg8)
                  have HN : Hid (OwnF w8 w.heap.size v8 ((B.take (k + 1)).filter (chgP A))) := Lib.hid (by rw [hmt.out, hnp.out, hnd.out]; simpa using hown8.out)
                  go_roundw
                  case rel => exact ⟨k + 1, _, by omega, by go_num, rfl, Lib.hid (.inr HF.out), HN, hB8⟩
                  case measure => simp [intOf]; omega
      · have hF : (fdB A && fdB B) = true := by
          rcases hp.out with h | h
          · omega
          · exact h
        have HR : Hid (chgF A B = (B.take k).filter (chgP A)) := Lib.hid (by rw [chgF_in (both_iff.1 hF).1 (both_iff.1 hF).2, List.take_of_length_le (by omega)])
        clear hF
        go_wp2
        go_ret
        exact ⟨_, rfl, by rw [HR.out]; exact hown.out, hbr.out⟩
end Go.Proofs.Ytbljpbmpfmnemaa
