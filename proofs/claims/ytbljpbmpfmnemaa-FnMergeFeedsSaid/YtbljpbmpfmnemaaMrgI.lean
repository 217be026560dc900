/-
  The verifier's own text: MrgI.
-/
import Derived.Test.YtbljpbmpfmnemaaRows
import Derived.Test.YtbljpbmpfmnemaaNewI
import Derived.Test.YtbljpbmpfmnemaaLatI
import Derived.WalkKit
import Derived.ProofKit
import Derived.Below
import Derived.Lib.Hide
import Derived.Outline
import Derived.BigQuiet
import Derived.Deep.QuietTactic
import Derived.Deep.Draws
import Derived.Laws.OwnMore
import Derived.Laws.Rows
import Derived.WalkSpells
import Derived.Deep.RegionWith
namespace Go.Proofs.Ytbljpbmpfmnemaa
open Go.RowKit
set_option linter.unusedVariables false
theorem mrgF_none {A B : List It} (h : (fdB A && fdB B) = false) : mrgF A B = [] := by unfold mrgF; rw [mrg0_out h, newF_out h]; rfl
theorem mrgF_many {A B : List It} (h : (fdB A && fdB B) = true) (h8 : ¬ A.length + (newF A B).length ≤ 8) : mrgF A B = [] := by
  unfold mrgF; rw [if_neg]
  rw [List.length_append, mrg0_in (both_iff.1 h).1 (both_iff.1 h).2, List.length_map]; exact h8
theorem mrgF_few {A B : List It} (h : (fdB A && fdB B) = true) (h8 : A.length + (newF A B).length ≤ 8) : mrgF A B = A.map (mrgI B) ++ newF A B := by
  unfold mrgF; rw [if_pos]
  · rw [mrg0_in (both_iff.1 h).1 (both_iff.1 h).2]
  · rw [List.length_append, mrg0_in (both_iff.1 h).1 (both_iff.1 h).2, List.length_map]; exact h8
theorem mrgF_len (A B : List It) : (mrgF A B).length ≤ 8 := by
  unfold mrgF; split
  · assumption
  · simp
theorem map_take' {α β : Type} (f : α → β) {L : List α} {k : Nat} (h : k < L.length) : (L.take (k + 1)).map f = (L.take k).map f ++ [f L[k]] := by
  rw [List.take_succ_eq_append_getElem h, List.map_append]; rfl
set_option maxRecDepth 100000 in
set_option maxHeartbeats 4000000 in
theorem chI_mrg (v u : Value) (A B : List It) (w : World) (hA : RdG encI w v A) (hB : RdG encI w u B) (fa : FitF A) (fb : FitF B) :
    Calls Try.prog 30 #[v, u] w (GotOwnF (mrgF A B) w) := by
  have hboth := Lib.hid (bothI_any v u A B w hA hB fa fb)
  rcases hF : (fdB A && fdB B) with _ | _
  · have HB := Lib.hid hF
    have HR := Lib.hid (mrgF_none hF)
    clear hF
    go_enter Try.func30, Try.ntmps30
    go_wp2_with (go_at_call 48; refine hboth.out.mono ?_; rintro e w1 ⟨rfl, hb1⟩; rw [HB.out])
    go_ret
    exact ⟨_, rfl, by rw [HR.out]; exact ownG_nil _ _ _ _ _, hb1⟩
  · have HB := Lib.hid hF
    have hA8 := (fdB_of (both_iff.1 hF).1).1
    obtain ⟨AA, cA, hv, hcA, hmA, _⟩ := id hA
    subst hv
    unfold maxLen at hmA
    have hN8 := newF_len A B
    have hmany := Lib.hid (mrgF_many hF)
    have hfew := Lib.hid (mrgF_few hF)
    clear hF
    go_enter Try.func30, Try.ntmps30
    go_wp2_with fail
    refine hboth.out.mono ?_
    rintro e w1 ⟨rfl, hb1⟩
    rw [HB.out]
    have hrdA := hA.below hb1
    have hrdB := hB.below hb1
    go_wp2_with fail
    refine (chI_new _ u A B _ hrdA hrdB fa fb).mono ?_
    rintro e w3 ⟨v3, rfl, hown3, hb3⟩
    have hB3 := Lib.hid (below_trans' hb1 hb3)
    have hrdA3 := Lib.hid (hrdA.below hb3)
    have hrdB3 := Lib.hid (hrdB.below hb3)
    obtain ⟨N, hN⟩ : ∃ N, newF A B = N := ⟨_, rfl⟩
    rw [hN] at hown3 hN8 hmany hfew
    clear hb3 hrdA hrdB hN hA hB hb1
    obtain ⟨A3, c3, hv3⟩ := OwnF.shape hown3
    subst hv3
    have hrd3 := Lib.hid (OwnG.rd hown3)
    by_cases h8 : A.length + N.length ≤ 8
    · have HR := Lib.hid (hfew.out h8)
      have t8 : decide ((8 : Int) < (A.length : Int) + (N.length : Int)) = false := decide_eq_false (by omega)
      go_wp2_with (at_make; refine make_items rfl _ _ rfl (A.length + N.length) rfl rfl (by omega) ?_; intro w5 hown5 hb5)
      have hown5 := Lib.hid (OwnG.base (B' := w3.heap.size) hown5 (Nat.le_refl _))
      have hX5 := Lib.hid hb5
      clear hb5
      go_loopw [6, 30] (fun x i wr => ∃ (k : Nat) (y : Value), k ≤ A.length ∧ i = .int .i64 k ∧ y = x ∧ Hid (OwnF wr w3.heap.size y ((A.take k).map (mrgI B))) ∧ Hid (Below w3.heap.size w3 wr)) (fun _ i _ => A.length - (intOf i).toNat)
      case atStart => exact ⟨0, _, Nat.zero_le _, rfl, rfl, hown5, hX5⟩
      case round =>
        obtain ⟨k, y, hk, rfl, rfl, hown, hbr⟩ := hrel
        by_cases hlt : k < A.length
        · have hj0 : (0 : Int) ≤ (k : Int) := by omega
          have hjj : (k : Int) < (A.length : Int) := by omega
          obtain ⟨b, o, c, hv, h1, h2, hb, h4⟩ := (hrdA3.out.below hbr.out).some (by intro e; rw [e] at hlt; simp at hlt)
          obtain ⟨rfl, rfl⟩ : AA = some ⟨b, o, none⟩ ∧ cA = c := by simpa using hv
          obtain ⟨c0, c1, c2, c4⟩ := rdI_cells h4 hlt
          have hmt := Lib.hid (map_take' (mrgI B) hlt)
          have hll : ((A.take k).map (mrgI B)).length ≤ 1073741824 := by rw [List.length_map, List.length_take]; omega
          obtain ⟨e, he⟩ : ∃ e, A[k] = e := ⟨_, rfl⟩
          rw [he] at c0 c1 c2 c4 hmt
          obtain ⟨ky, ti, bo, da⟩ := e
          simp only at c0 c1 c2 c4
          obtain ⟨i, hi⟩ : ∃ i, mrgI B ⟨ky, ti, bo, da⟩ = i := ⟨_, rfl⟩
          rw [hi] at hmt
          clear hv h1 h4 he
          obtain ⟨w6, hw6⟩ : ∃ w6, wr.alloc (.cells #[.string ky, .string ti, .string bo, .int .i64 da] 30) = w6 := ⟨_, rfl⟩
          have hB6 : Hid (Below w3.heap.size w3 w6) := Lib.hid (by rw [← hw6]; exact hbr.out.alloc hbr.out.size _)
          have hown6 : Hid (OwnF w6 w3.heap.size y _) := Lib.hid (by rw [← hw6]; exact OwnG.grown hown.out ((Below.refl _ _).alloc (Nat.le_refl _) _))
          obtain ⟨d0, d1, d2, d3⟩ := row4 hw6 (Below.refl _ _)
          have hrdB6 := hrdB3.out.below hB6.out
          go_wp2_with fail
          refine (latI_any ky ti bo da u B _ hrdB6 i hi).mono ?_
          obtain ⟨j0, j1, j2, j3⟩ := i
          rintro e w7 ⟨rfl, hb7⟩
          have hB7 := Lib.hid (below_trans' hB6.out hb7)
          have hown7 := Lib.hid (OwnG.grown hown6.out hb7)
          have hsz7 := hB7.out.size
          clear hb7 hrdB6 hi c0 c1 c2 c4 d0 d1 d2 d3
          dsimp only
          go_wp2_with (at_builtin; refine app_item rfl (.tmp 34) (.tmp 38) rfl w3.heap.size _ ((A.take k).map (mrgI B)) j0 j1 j2 j3 rfl hown7.out hsz7 _ rfl rfl hll ?_; intro v8 w8 hown8 hg8; have hB8 := Lib.hid (own_below hown7.out hB7.out hg8); have hown8 := Lib.hid hown8; clear hg8)
          go_roundw
          case rel => exact ⟨k + 1, _, by omega, by go_num, rfl, by rw [hmt.out]; exact hown8, hB8⟩
          case measure => simp [intOf]; omega
        · have hrdN := hrd3.out.below hbr.out
          have hTA : Hid ((A.take k).map (mrgI B) = A.map (mrgI B)) := Lib.hid (by rw [List.take_of_length_le (by omega)])
          have hll : ((A.take k).map (mrgI B)).length + N.length ≤ 1073741824 := by rw [List.length_map, List.length_take]; omega
          have hszr := hbr.out.size
          go_wp2_with (at_builtin; refine app_items rfl (.tmp 41) (.tmp 42) rfl w3.heap.size _ _ ((A.take k).map (mrgI B)) N rfl hown.out hszr rfl hrdN hll ?_; intro v8 w8 hown8 hg8; have hB8 := Lib.hid (own_below hown.out hbr.out hg8); have hown8 := Lib.hid hown8; clear hg8)
          go_ret
          exact ⟨_, rfl, by rw [HR.out, ← hTA.out]; exact OwnG.base hown8.out hB3.out.size, below_trans' hB3.out hB8.out⟩
    · have HR := Lib.hid (hmany.out h8)
      have t8 : decide ((8 : Int) < (A.length : Int) + (N.length : Int)) = true := decide_eq_true (by omega)
      go_wp2
      go_ret
      exact ⟨_, rfl, by rw [HR.out]; exact ownG_nil _ _ _ _ _, hB3.out⟩
end Go.Proofs.Ytbljpbmpfmnemaa
