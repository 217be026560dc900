/-
  The verifier's own text: GoneS.
-/
import Derived.Test.YtbljpbmpfmnemaaRows
import Derived.Test.YtbljpbmpfmnemaaNewS
import Derived.Test.YtbljpbmpfmnemaaOwnTwo
import Derived.Test.YtbljpbmpfmnemaaGq
import Derived.WalkKit
import Derived.ProofKit
import Derived.Below
import Derived.Lib.Hide
import Derived.Outline
import Derived.BigQuiet
import Derived.Deep.QuietTactic
import Derived.Deep.Draws
import Derived.Laws.OwnMore
import Derived.Laws.Rows
import Derived.WalkSpells
import Derived.Deep.RegionWith
namespace Go.Proofs.Ytbljpbmpfmnemaa
open Go.RowKit
set_option linter.unusedVariables false
theorem gonF_len (A B : List It) : (gonF A B).length ≤ 8 := by
  unfold gonF; rw [List.length_map]; exact newF_len B A
set_option maxRecDepth 100000 in
set_option maxHeartbeats 4000000 in
theorem chS_gone (v u : Value) (A B : List It) (w : World) (hA : RdG encI w v A) (hB : RdG encI w u B) (fa : FitF A) (fb : FitF B) :
    Calls Try.prog 28 #[v, u] w (GotLS (gonF A B) w) := by
  have hown0 := Lib.hid (ownS_empty w w.heap.size (Nat.le_refl _))
  have hb0 : Hid (Below w.heap.size w (w.alloc (.cells #[] 9))) := Lib.hid ((Below.refl _ _).alloc (Nat.le_refl _) _)
  have hrdA := hA.below hb0.out
  have hrdB := hB.below hb0.out
  go_enter Try.func28, Try.ntmps28
  go_wp2_with fail
  refine (chS_new u v B A _ hrdB hrdA fb fa).mono ?_
  rintro e w3 ⟨v3, rfl, hown3, hb3⟩
  have hB3 := Lib.hid (below_trans' hb0.out hb3)
  have hownS := Lib.hid (OwnG.grown hown0.out hb3)
  have hM8 := newF_len B A
  have hmap : Hid (gonF A B = (newF B A).map It.key) := Lib.hid rfl
  obtain ⟨M, hM⟩ : ∃ M, newF B A = M := ⟨_, rfl⟩
  rw [hM] at hown3 hM8 hmap
  clear hb3 hrdA hrdB hM
  obtain ⟨A3, c3, hv3⟩ := OwnF.shape hown3
  subst hv3
  have hown3 := Lib.hid hown3
  go_wp2
  go_loopw [5, 7] (fun x i wr => ∃ (k : Nat) (y : Value), k ≤ M.length ∧ i = .int .i64 k ∧ y = x ∧ Hid (OwnS wr w.heap.size y ((M.take k).map It.key)) ∧ Hid (OwnF wr (w.heap.size + 1) (.slice A3 M.length c3) M) ∧ Hid (Below w.heap.size w wr)) (fun _ i _ => M.length - (intOf i).toNat)
  case atStart => exact ⟨0, _, Nat.zero_le _, rfl, rfl, hownS, by simpa using hown3, hB3⟩
  case round =>
    obtain ⟨k, y, hk, rfl, rfl, hown, hownM, hbr⟩ := hrel
    by_cases hlt : k < M.length
    · have hj0 : (0 : Int) ≤ (k : Int) := by omega
      have hjj : (k : Int) < (M.length : Int) := by omega
      obtain ⟨b, o, c, hv, h1, h2, hb, h4⟩ := (OwnG.rd hownM.out).some (by intro e; rw [e] at hlt; simp at hlt)
      obtain ⟨rfl, rfl⟩ : A3 = some ⟨b, o, none⟩ ∧ c3 = c := by simpa using hv
      obtain ⟨c0, _, _, _⟩ := rdI_cells h4 hlt
      have hmt := Lib.hid (map_take It.key hlt)
      obtain ⟨ky, hky⟩ : ∃ ky, M[k].key = ky := ⟨_, rfl⟩
      rw [hky] at c0 hmt
      have hll : ((M.take k).map It.key).length ≤ 1073741824 := by rw [List.length_map, List.length_take]; omega
      have hszr := hbr.out.size
      clear hv h1 h4 hky
      go_wp2_with (at_builtin; refine app_str rfl (.tmp 18) (.tmp 24) rfl w.heap.size _ ((M.take k).map It.key) ky rfl hown.out hszr _ rfl rfl hll ?_; intro v6 w6 hown6 hg6; have hB6 := Lib.hid (own_below hown.out hbr.out hg6); have hownM6 := Lib.hid (OwnG.keep hownM.out hg6 (own_two hown.out hownM.out (by decide))); have hown6 := Lib.hid hown6; clear hg6)
      go_roundw
      case rel => exact ⟨k + 1, _, by omega, by go_num, rfl, by rw [hmt.out]; exact hown6, hownM6, hB6⟩
      case measure => simp [intOf]; omega
    · have HR : Hid (gonF A B = (M.take k).map It.key) := Lib.hid (by rw [hmap.out, List.take_of_length_le (by omega)])
      go_wp2
      go_ret
      exact ⟨_, rfl, by rw [HR.out]; exact hown.out, hbr.out⟩
end Go.Proofs.Ytbljpbmpfmnemaa
