/-
  The verifier's own text: MergeS.
-/
import Derived.Test.YtbljpbmpfmnemaaRows
import Derived.Test.YtbljpbmpfmnemaaNewS
import Derived.WalkKit
import Derived.ProofKit
import Derived.Below
import Derived.Lib.Hide
import Derived.Outline
import Derived.BigQuiet
import Derived.Deep.QuietTactic
import Derived.Deep.Draws
import Derived.Laws.OwnMore
import Derived.Laws.Rows
import Derived.WalkSpells
import Derived.Deep.RegionWith
namespace Go.Proofs.Ytbljpbmpfmnemaa
open Go.RowKit
set_option linter.unusedVariables false
theorem map_takeM {L : List It} (B : List It) {k : Nat} (h : k < L.length) : (L.take (k + 1)).map (mrgI B) = (L.take k).map (mrgI B) ++ [mrgI B L[k]] := by
  rw [List.take_succ_eq_append_getElem h, List.map_append]; rfl
set_option maxRecDepth 100000 in
set_option maxHeartbeats 8000000 in
theorem chS_mrg (v u : Value) (A B : List It) (w : World) (hA : RdG encI w v A) (hB : RdG encI w u B) (fa : FitF A) (fb : FitF B) :
    Calls Try.prog 31 #[v, u] w (GotOwnF (mrgF A B) w) := by
  have hown0 := Lib.hid (own_none w w.heap.size (Nat.le_refl _))
  have hb0 : Hid (Below w.heap.size w (w.alloc (.cells #[] 30))) := Lib.hid ((Below.refl _ _).alloc (Nat.le_refl _) _)
  have hrdA := Lib.hid hA
  have hrdB := Lib.hid hB
  obtain ⟨AA, cA, hv, hcA, hmA, _⟩ := id hA
  subst hv
  unfold maxLen at hmA
  clear hA hB
  go_enter Try.func31, Try.ntmps31
  go_wp2
  go_loopw [5, 6] (fun x i wr => ∃ (k : Nat) (P : List It) (y : Value), k ≤ A.length ∧ i = .int .i64 k ∧ y = x ∧ P.length ≤ 8 ∧ Hid (k = 0 ∨ (fdB A && fdB B) = true) ∧ Hid (P = (A.take k).map (mrgI B)) ∧ Hid (OwnF wr w.heap.size y P) ∧ Hid (Below w.heap.size w wr)) (fun _ i _ => A.length - (intOf i).toNat)
  case atStart => exact ⟨0, [], _, Nat.zero_le _, rfl, rfl, by simp, Lib.hid (.inl rfl), Lib.hid rfl, hown0, hb0⟩
  case round =>
    obtain ⟨k, P, y, hk, rfl, rfl, hP8, hp, hPe, hown, hbr⟩ := hrel
    obtain ⟨Ay, cy, hy⟩ := OwnF.shape hown.out
    subst hy
    by_cases hlt : k < A.length
    · have hj0 : (0 : Int) ≤ (k : Int) := by omega
      have hjj : (k : Int) < (A.length : Int) := by omega
      have hrdr := hrdA.out.below hbr.out
      go_wp2_with fail
      refine (fdS_valid _ A _ hrdr fa).mono ?_
      rintro e w3 ⟨rfl, hb3⟩
      have hB3 := Lib.hid (below_trans' hbr.out hb3)
      have hown3 := Lib.hid (OwnG.grown hown.out hb3)
      clear hb3 hrdr hown hbr
      rcases hFA : fdB A with _ | _
      · have HR : Hid (mrg0 A B = P) := Lib.hid (by
          have hk0 : k = 0 := by
            rcases hp.out with h | h
            · exact h
            · rw [hFA] at h; cases h
          rw [mrg0_out (by rw [hFA]; rfl), hPe.out, hk0]; rfl)
        clear hFA
        have hrdA9 := hrdA.out.below hB3.out
        have hrdB9 := hrdB.out.below hB3.out
        go_wp2_with fail
        refine (chS_new _ u A B _ hrdA9 hrdB9 fa fb).mono ?_
        rintro e w8 ⟨v8, rfl, hown8, hb8⟩
        have hownP := Lib.hid (OwnG.grown hown3.out hb8)
        have hB8 := Lib.hid (below_trans' hB3.out hb8)
        have hrdN := OwnG.rd hown8
        have hN8 := newF_len A B
        have hMR : Hid (mrgF A B = if (P ++ newF A B).length ≤ 8 then P ++ newF A B else []) := Lib.hid (by unfold mrgF; rw [HR.out])
        obtain ⟨N, hN⟩ : ∃ N, newF A B = N := ⟨_, rfl⟩
        rw [hN] at hrdN hN8 hMR
        obtain ⟨A8, c8, hv8⟩ := OwnF.shape hown8
        rw [hN] at hv8
        subst hv8
        clear hown8 hb8 hrdA9 hrdB9 hN
        have hsz8 := hB8.out.size
        have hlPN : P.length + N.length ≤ 1073741824 := by omega
        by_cases h8 : P.length + N.length ≤ 8
        · have HR2 : Hid (mrgF A B = P ++ N) := Lib.hid (by rw [hMR.out, if_pos (by rw [List.length_append]; exact h8)])
          go_wp2_with (at_builtin; refine app_items rfl (.tmp 44) (.tmp 47) rfl w.heap.size _ _ P N rfl hownP.out hsz8 rfl hrdN hlPN ?_; intro v9 w9 hown9 hg9; have hB9 := Lib.hid (own_below hownP.out hB8.out hg9); obtain ⟨A9, c9, hv9⟩ := OwnF.shape hown9; obtain ⟨z9, hz9⟩ : ∃ z, (P ++ N).length = z := ⟨_, rfl⟩; rw [hz9] at hv9; rw [List.length_append] at hz9; have t8 : decide ((8 : Int) < (z9 : Int)) = false := decide_eq_false (by omega); clear hz9; subst hv9; have hown9 := Lib.hid hown9; clear hg9)
          go_ret
          exact ⟨_, rfl, by rw [HR2.out]; exact hown9.out, hB9.out⟩
        · have HR2 : Hid (mrgF A B = []) := Lib.hid (by rw [hMR.out, if_neg (by rw [List.length_append]; exact h8)])
          go_wp2_with (at_builtin; refine app_items rfl (.tmp 44) (.tmp 47) rfl w.heap.size _ _ P N rfl hownP.out hsz8 rfl hrdN hlPN ?_; intro v9 w9 hown9 hg9; have hB9 := Lib.hid (own_below hownP.out hB8.out hg9); obtain ⟨A9, c9, hv9⟩ := OwnF.shape hown9; obtain ⟨z9, hz9⟩ : ∃ z, (P ++ N).length = z := ⟨_, rfl⟩; rw [hz9] at hv9; rw [List.length_append] at hz9; have t8 : decide ((8 : Int) < (z9 : Int)) = true := decide_eq_true (by omega); clear hz9; subst hv9; have hown9 := Lib.hid hown9; clear hg9)
          go_ret
          exact ⟨_, rfl, by rw [HR2.out]; exact own_none w9 w.heap.size hB9.out.size, hB9.out.alloc hB9.out.size _⟩
      · have hrdr := hrdB.out.below hB3.out
        have HA := Lib.hid hFA
        clear hFA
        go_wp2_with fail
        refine (fdS_valid _ B _ hrdr fb).mono ?_
        rintro e w4 ⟨rfl, hb4⟩
        have hB4 := Lib.hid (below_trans' hB3.out hb4)
        have hown4 := Lib.hid (OwnG.grown hown3.out hb4)
        clear hb4 hrdr hown3 hB3
        rcases hFB : fdB B with _ | _
        · have HR : Hid (mrg0 A B = P) := Lib.hid (by
            have hk0 : k = 0 := by
              rcases hp.out with h | h
              · exact h
              · rw [hFB, HA.out] at h; cases h
            rw [mrg0_out (by rw [hFB, HA.out]; rfl), hPe.out, hk0]; rfl)
          clear hFB
          have hrdA9 := hrdA.out.below hB4.out
          have hrdB9 := hrdB.out.below hB4.out
          go_wp2_with fail
          refine (chS_new _ u A B _ hrdA9 hrdB9 fa fb).mono ?_
          rintro e w8 ⟨v8, rfl, hown8, hb8⟩
          have hownP := Lib.hid (OwnG.grown hown4.out hb8)
          have hB8 := Lib.hid (below_trans' hB4.out hb8)
          have hrdN := OwnG.rd hown8
          have hN8 := newF_len A B
          have hMR : Hid (mrgF A B = if (P ++ newF A B).length ≤ 8 then P ++ newF A B else []) := Lib.hid (by unfold mrgF; rw [HR.out])
          obtain ⟨N, hN⟩ : ∃ N, newF A B = N := ⟨_, rfl⟩
          rw [hN] at hrdN hN8 hMR
          obtain ⟨A8, c8, hv8⟩ := OwnF.shape hown8
          rw [hN] at hv8
          subst hv8
          clear hown8 hb8 hrdA9 hrdB9 hN
          have hsz8 := hB8.out.size
          have hlPN : P.length + N.length ≤ 1073741824 := by omega
          by_cases h8 : P.length + N.length ≤ 8
          · have HR2 : Hid (mrgF A B = P ++ N) := Lib.hid (by rw [hMR.out, if_pos (by rw [List.length_append]; exact h8)])
            go_wp2_with (at_builtin; refine app_items rfl (.tmp 44) (.tmp 47) rfl w.heap.size _ _ P N rfl hownP.out hsz8 rfl hrdN hlPN ?_; intro v9 w9 hown9 hg9; have hB9 := Lib.hid (own_below hownP.out hB8.out hg9); obtain ⟨A9, c9, hv9⟩ := OwnF.shape hown9; obtain ⟨z9, hz9⟩ : ∃ z, (P ++ N).length = z := ⟨_, rfl⟩; rw [hz9] at hv9; rw [List.length_append] at hz9; have t8 : decide ((8 : Int) < (z9 : Int)) = false := decide_eq_false (by omega); clear hz9; subst hv9; have hown9 := Lib.hid hown9; clear hg9)
            go_ret
            exact ⟨_, rfl, by rw [HR2.out]; exact hown9.out, hB9.out⟩
          · have HR2 : Hid (mrgF A B = []) := Lib.hid (by rw [hMR.out, if_neg (by rw [List.length_append]; exact h8)])
            go_wp2_with (at_builtin; refine app_items rfl (.tmp 44) (.tmp 47) rfl w.heap.size _ _ P N rfl hownP.out hsz8 rfl hrdN hlPN ?_; intro v9 w9 hown9 hg9; have hB9 := Lib.hid (own_below hownP.out hB8.out hg9); obtain ⟨A9, c9, hv9⟩ := OwnF.shape hown9; obtain ⟨z9, hz9⟩ : ∃ z, (P ++ N).length = z := ⟨_, rfl⟩; rw [hz9] at hv9; rw [List.length_append] at hz9; have t8 : decide ((8 : Int) < (z9 : Int)) = true := decide_eq_true (by omega); clear hz9; subst hv9; have hown9 := Lib.hid hown9; clear hg9)
            go_ret
            exact ⟨_, rfl, by rw [HR2.out]; exact own_none w9 w.heap.size hB9.out.size, hB9.out.alloc hB9.out.size _⟩
        · have h8 := (fdB_of HA.out).1
          have HF : Hid ((fdB A && fdB B) = true) := Lib.hid (by rw [HA.out, hFB]; rfl)
          have HBv := Lib.hid hFB
          have hrdr := hrdB.out.below hB4.out
          have hll : P.length ≤ 1073741824 := by omega
          have hmt := Lib.hid (map_takeM B hlt)
          obtain ⟨b, o, c, hv, h1, h2, hb, h4⟩ := hrdA.out.some (by intro e; rw [e] at hlt; simp at hlt)
          obtain ⟨rfl, rfl⟩ : AA = some ⟨b, o, none⟩ ∧ cA = c := by simpa using hv
          have hcells := Lib.hid (fun k (hk : k < A.length) => rdI_cells h4 hk)
          have hrwL := Lib.hid (fun wX (hX : Below w.heap.size w wX) => rdI_at hcells.out hb hX hlt)
          obtain ⟨e, he⟩ : ∃ e, A[k] = e := ⟨_, rfl⟩
          rw [he] at hrwL hmt
          obtain ⟨ky, ti, bo, da⟩ := e
          simp only at hrwL
          have hPk : P.length + 1 ≤ 8 := by rw [hPe.out, List.length_map, List.length_take]; omega
          obtain ⟨c0, c1, c2, c3⟩ := hrwL.out _ hB4.out
          clear he hFB hp hv h4
          go_wp2_with fail
          refine (fdS_with _ B ky _ hrdr fb).mono ?_
          rintro e w5 ⟨rfl, hb5⟩
          have hB5 := Lib.hid (below_trans' hB4.out hb5)
          have hown5 := Lib.hid (OwnG.grown hown4.out hb5)
          clear hb5 hrdr hown4 hB4 c0 c1 c2 c3
          rw [itW_in ky HBv.out]
          obtain ⟨x0, x1, x2, x3, q, hq⟩ : ∃ x0 x1 x2 x3 q, itW1 B ky = (⟨x0, x1, x2, x3⟩, q) := ⟨_, _, _, _, _, rfl⟩
          have hmi : Hid (mrgI B ⟨ky, ti, bo, da⟩ = if q then ⟨x0, x1, x2, x3⟩ else ⟨ky, ti, bo, da⟩) := Lib.hid (by unfold mrgI; rw [hq])
          rw [hq]
          clear hq
          obtain ⟨w6, hw6⟩ : ∃ w6, w5.alloc (.cells #[.string x0, .string x1, .string x2, .int .i64 x3] 30) = w6 := ⟨_, rfl⟩
          have hB6 : Hid (Below w.heap.size w w6) := Lib.hid (by rw [← hw6]; exact hB5.out.alloc hB5.out.size _)
          have hX6 : Hid (Below w5.heap.size w5 w6) := Lib.hid (by rw [← hw6]; exact (Below.refl _ _).alloc (Nat.le_refl _) _)
          have hown6 : Hid (OwnF w6 w.heap.size _ P) := Lib.hid (OwnG.grown hown5.out hX6.out)
          have hsz5 := hB5.out.size
          obtain ⟨c0, c1, c2, c3⟩ := hrwL.out _ hB6.out
          obtain ⟨d0, d1, d2, d3⟩ := row4 hw6 (Below.refl _ _)
          have hfr : w6.heap[w5.heap.size]? = some (.cells #[.string x0, .string x1, .string x2, .int .i64 x3] 30) := by rw [← hw6]; exact heap_alloc_new w5 _
          have hfz : ∀ j, w6.frozen? ⟨w5.heap.size, j, none⟩ = false := fun j => by simp [World.frozen?, hfr]
          clear hfr
          dsimp only
          cases q with
          | true =>
            have hsz6 := hB6.out.size
            go_wp2_with (at_builtin; refine app_item rfl (.tmp 40) (.tmp 42) rfl w.heap.size _ P x0 x1 x2 x3 rfl hown6.out hsz6 _ rfl rfl hll ?_; intro v7 w7 hown7 hg7; have hB7 := Lib.hid (own_below hown6.out hB6.out hg7); have hown7 := Lib.hid hown7; clear hg7)
            have HN : Hid (P ++ [(⟨x0, x1, x2, x3⟩ : It)] = (A.take (k + 1)).map (mrgI B)) := Lib.hid (by rw [hmt.out, hmi.out, hPe.out]; rfl)
            go_roundw
            case rel => exact ⟨k + 1, _, _, by omega, by go_num, rfl, by rw [List.length_append]; exact hPk, Lib.hid (.inr HF.out), HN, hown7, hB7⟩
            case measure => simp [intOf]; omega
          | false =>
            have hX7 : Hid (Below w5.heap.size w5 ((((w6.setCell ⟨w5.heap.size, 0, none⟩ (.string ky)).setCell ⟨w5.heap.size, 1, none⟩ (.string ti)).setCell ⟨w5.heap.size, 2, none⟩ (.string bo)).setCell ⟨w5.heap.size, 3, none⟩ (.int .i64 da))) := Lib.hid ((((hX6.out.setCell (Nat.le_refl _) _).setCell (Nat.le_refl _) _).setCell (Nat.le_refl _) _).setCell (Nat.le_refl _) _)
            have hown7 := Lib.hid (OwnG.grown hown5.out hX7.out)
            have hB7 := Lib.hid (below_trans' hB5.out hX7.out)
            have hsz7 := hB7.out.size
            go_wp2_with (at_builtin; refine app_item rfl (.tmp 40) (.tmp 42) rfl w.heap.size _ P ky ti bo da rfl hown7.out hsz7 _ (by simp) rfl hll ?_; intro v8 w8 hown8 hg8; have hB8 := Lib.hid (own_below hown7.out hB7.out hg8); have hown8 := Lib.hid hown8; clear hg8)
            have HN : Hid (P ++ [(⟨ky, ti, bo, da⟩ : It)] = (A.take (k + 1)).map (mrgI B)) := Lib.hid (by rw [hmt.out, hmi.out, hPe.out]; rfl)
            go_roundw
            case rel => exact ⟨k + 1, _, _, by omega, by go_num, rfl, by rw [List.length_append]; exact hPk, Lib.hid (.inr HF.out), HN, hown8, hB8⟩
            case measure => simp [intOf]; omega
    · have HR : Hid (mrg0 A B = P) := Lib.hid (by
        have ht : A.take k = A := List.take_of_length_le (by omega)
        rw [hPe.out, ht]
        rcases hp.out with h | h
        · have : A = [] := List.length_eq_zero_iff.1 (by omega)
          subst this; unfold mrg0; split <;> rfl
        · exact mrg0_in (both_iff.1 h).1 (both_iff.1 h).2)
      have hrdA9 := hrdA.out.below hbr.out
      have hrdB9 := hrdB.out.below hbr.out
      go_wp2_with fail
      refine (chS_new _ u A B _ hrdA9 hrdB9 fa fb).mono ?_
      rintro e w8 ⟨v8, rfl, hown8, hb8⟩
      have hownP := Lib.hid (OwnG.grown hown.out hb8)
      have hB8 := Lib.hid (below_trans' hbr.out hb8)
      have hrdN := OwnG.rd hown8
      have hN8 := newF_len A B
      have hMR : Hid (mrgF A B = if (P ++ newF A B).length ≤ 8 then P ++ newF A B else []) := Lib.hid (by unfold mrgF; rw [HR.out])
      obtain ⟨N, hN⟩ : ∃ N, newF A B = N := ⟨_, rfl⟩
      rw [hN] at hrdN hN8 hMR
      obtain ⟨A8, c8, hv8⟩ := OwnF.shape hown8
      rw [hN] at hv8
      subst hv8
      clear hown8 hb8 hrdA9 hrdB9 hN
      have hsz8 := hB8.out.size
      have hlPN : P.length + N.length ≤ 1073741824 := by omega
      by_cases h8 : P.length + N.length ≤ 8
      · have HR2 : Hid (mrgF A B = P ++ N) := Lib.hid (by rw [hMR.out, if_pos (by rw [List.length_append]; exact h8)])
        go_wp2_with (at_builtin; refine app_items rfl (.tmp 44) (.tmp 47) rfl w.heap.size _ _ P N rfl hownP.out hsz8 rfl hrdN hlPN ?_; intro v9 w9 hown9 hg9; have hB9 := Lib.hid (own_below hownP.out hB8.out hg9); obtain ⟨A9, c9, hv9⟩ := OwnF.shape hown9; obtain ⟨z9, hz9⟩ : ∃ z, (P ++ N).length = z := ⟨_, rfl⟩; rw [hz9] at hv9; rw [List.length_append] at hz9; have t8 : decide ((8 : Int) < (z9 : Int)) = false := decide_eq_false (by omega); clear hz9; subst hv9; have hown9 := Lib.hid hown9; clear hg9)
        go_ret
        exact ⟨_, rfl, by rw [HR2.out]; exact hown9.out, hB9.out⟩
      · have HR2 : Hid (mrgF A B = []) := Lib.hid (by rw [hMR.out, if_neg (by rw [List.length_append]; exact h8)])
        go_wp2_with (at_builtin; refine app_items rfl (.tmp 44) (.tmp 47) rfl w.heap.size _ _ P N rfl hownP.out hsz8 rfl hrdN hlPN ?_; intro v9 w9 hown9 hg9; have hB9 := Lib.hid (own_below hownP.out hB8.out hg9); obtain ⟨A9, c9, hv9⟩ := OwnF.shape hown9; obtain ⟨z9, hz9⟩ : ∃ z, (P ++ N).length = z := ⟨_, rfl⟩; rw [hz9] at hv9; rw [List.length_append] at hz9; have t8 : decide ((8 : Int) < (z9 : Int)) = true := decide_eq_true (by omega); clear hz9; subst hv9; have hown9 := Lib.hid hown9; clear hg9)
        go_ret
        exact ⟨_, rfl, by rw [HR2.out]; exact own_none w9 w.heap.size hB9.out.size, hB9.out.alloc hB9.out.size _⟩
end Go.Proofs.Ytbljpbmpfmnemaa
