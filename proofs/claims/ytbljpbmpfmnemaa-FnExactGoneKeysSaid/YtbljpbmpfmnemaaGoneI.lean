/-
  The verifier's own text: GoneI.
-/
import Derived.Test.YtbljpbmpfmnemaaRows
import Derived.Test.YtbljpbmpfmnemaaNewI
import Derived.Test.YtbljpbmpfmnemaaGoneS
import Derived.WalkKit
import Derived.ProofKit
import Derived.Below
import Derived.Lib.Hide
import Derived.Outline
import Derived.BigQuiet
import Derived.Deep.QuietTactic
import Derived.Deep.Draws
import Derived.Laws.OwnMore
import Derived.Laws.Rows
import Derived.WalkSpells
import Derived.Deep.RegionWith
namespace Go.Proofs.Ytbljpbmpfmnemaa
open Go.RowKit
set_option linter.unusedVariables false
theorem gonF_out {A B : List It} (h : (fdB A && fdB B) = false) : gonF A B = [] := by
  unfold gonF; rw [newF_out (by rw [Bool.and_comm]; exact h)]; rfl
set_option maxRecDepth 100000 in
set_option maxHeartbeats 4000000 in
theorem chI_gone (v u : Value) (A B : List It) (w : World) (hA : RdG encI w v A) (hB : RdG encI w u B) (fa : FitF A) (fb : FitF B) :
    Calls Try.prog 26 #[v, u] w (GotLS (gonF A B) w) := by
  have hboth := Lib.hid (bothI_any v u A B w hA hB fa fb)
  rcases hF : (fdB A && fdB B) with _ | _
  · have HB := Lib.hid hF
    have HR := Lib.hid (gonF_out hF)
    clear hF
    go_enter Try.func26, Try.ntmps26
    go_wp2_with (go_at_call 48; refine hboth.out.mono ?_; rintro e w1 ⟨rfl, hb1⟩; rw [HB.out])
    go_ret
    exact ⟨_, rfl, by rw [HR.out]; exact ownG_nil _ _ _ _ _, hb1⟩
  · have HB := Lib.hid hF
    clear hF
    go_enter Try.func26, Try.ntmps26
    go_wp2_with fail
    refine hboth.out.mono ?_
    rintro e w1 ⟨rfl, hb1⟩
    rw [HB.out]
    have hrdA := hA.below hb1
    have hrdB := hB.below hb1
    go_wp2_with fail
    refine (chI_new u v B A _ hrdB hrdA fb fa).mono ?_
    rintro e w3 ⟨v3, rfl, hown3, hb3⟩
    have hB3 := Lib.hid (below_trans' hb1 hb3)
    have hM8 := newF_len B A
    have hmap : Hid (gonF A B = (newF B A).map It.key) := Lib.hid rfl
    obtain ⟨M, hM⟩ : ∃ M, newF B A = M := ⟨_, rfl⟩
    rw [hM] at hown3 hM8 hmap
    clear hb3 hrdA hrdB hM
    obtain ⟨A3, c3, hv3⟩ := OwnF.shape hown3
    subst hv3
    have hrd3 := Lib.hid (OwnG.rd hown3)
    go_wp2_with (at_make; refine make_strs rfl _ _ rfl M.length rfl rfl (by omega) ?_; intro w5 hownS hb5)
    have hrd5 := Lib.hid (hrd3.out.below hb5)
    have hB5 := Lib.hid (below_trans' hB3.out hb5)
    have hownS := Lib.hid (OwnG.base (B' := w3.heap.size) hownS (Nat.le_refl _))
    have hX5 := Lib.hid hb5
    clear hb5
    go_loopw [6, 21] (fun x i wr => ∃ (k : Nat) (y : Value), k ≤ M.length ∧ i = .int .i64 k ∧ y = x ∧ Hid (OwnS wr w3.heap.size y ((M.take k).map It.key)) ∧ Hid (Below w3.heap.size w3 wr)) (fun _ i _ => M.length - (intOf i).toNat)
    case atStart => exact ⟨0, _, Nat.zero_le _, rfl, rfl, hownS, hX5⟩
    case round =>
      obtain ⟨k, y, hk, rfl, rfl, hown, hbr⟩ := hrel
      by_cases hlt : k < M.length
      · have hj0 : (0 : Int) ≤ (k : Int) := by omega
        have hjj : (k : Int) < (M.length : Int) := by omega
        obtain ⟨b, o, c, hv, h1, h2, hb, h4⟩ := (hrd3.out.below hbr.out).some (by intro e; rw [e] at hlt; simp at hlt)
        obtain ⟨rfl, rfl⟩ : A3 = some ⟨b, o, none⟩ ∧ c3 = c := by simpa using hv
        obtain ⟨c0, c1, c2, c4⟩ := rdI_cells h4 hlt
        have hmt := Lib.hid (map_take It.key hlt)
        obtain ⟨e, he⟩ : ∃ e, M[k] = e := ⟨_, rfl⟩
        rw [he] at c0 c1 c2 c4 hmt
        obtain ⟨ky, ti, bo, da⟩ := e
        simp only at c0 c1 c2 c4 hmt
        have hll : ((M.take k).map It.key).length ≤ 1073741824 := by rw [List.length_map, List.length_take]; omega
        clear hv h1 h4 he
        obtain ⟨w6, hw6⟩ : ∃ w6, wr.alloc (.cells #[.string ky, .string ti, .string bo, .int .i64 da] 30) = w6 := ⟨_, rfl⟩
        have hB6 : Hid (Below w3.heap.size w3 w6) := Lib.hid (by rw [← hw6]; exact hbr.out.alloc hbr.out.size _)
        have hown6 : Hid (OwnS w6 w3.heap.size y _) := Lib.hid (by rw [← hw6]; exact OwnG.grown hown.out ((Below.refl _ _).alloc (Nat.le_refl _) _))
        obtain ⟨d0, d1, d2, d3⟩ := row4 hw6 (Below.refl _ _)
        have hsz6 := hB6.out.size
        go_wp2_with (at_builtin; refine app_str rfl (.tmp 25) (.tmp 28) rfl w3.heap.size _ ((M.take k).map It.key) ky rfl hown6.out hsz6 _ rfl rfl hll ?_; intro v7 w7 hown7 hg7; have hB7 := Lib.hid (own_below hown6.out hB6.out hg7); have hown7 := Lib.hid hown7; clear hg7)
        go_roundw
        case rel => exact ⟨k + 1, _, by omega, by go_num, rfl, by rw [hmt.out]; exact hown7, hB7⟩
        case measure => simp [intOf]; omega
      · have HR : Hid (gonF A B = (M.take k).map It.key) := Lib.hid (by rw [hmap.out, List.take_of_length_le (by omega)])
        go_wp2
        go_ret
        exact ⟨_, rfl, by rw [HR.out]; exact OwnG.base hown.out hB3.out.size, below_trans' hB3.out hbr.out⟩
end Go.Proofs.Ytbljpbmpfmnemaa
