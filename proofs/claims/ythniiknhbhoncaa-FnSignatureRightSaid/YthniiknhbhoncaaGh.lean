/-
  The verifier's own text: DText DDayD.
-/
import Derived.Test.YthniiknhbhoncaaRows
import Derived.Test.YthniiknhbhoncaaGb
import Derived.WalkKit
import Derived.ProofKit
import Derived.Below
import Derived.Lib.Hide
import Derived.Outline
import Derived.BigQuiet
import Derived.Deep.QuietTactic
import Derived.Deep.Draws
import Derived.Laws.OwnMore
import Derived.Laws.Rows
import Derived.WalkSpells
import Derived.Deep.RegionWith
namespace Go.Proofs.Ythniiknhbhoncaa
open Go.RowKit
set_option linter.unusedVariables false
/-- 81 zero bytes, in memory and as a text -/
def Z81 : Array Value := Array.replicate 81 (.int .u8 0)
def S81 : ByteArray := ⟨(List.replicate 81 (0 : UInt8)).toArray⟩
theorem S81_size : S81.size = 81 := by decide
theorem make81 (w : World) : (Instr.makeSlice 22 (.int .i64 81) (.int .i64 81)).run Try.prog w = .ok (.slice (some ⟨w.heap.size, 0, none⟩) 81 81) (w.alloc (.cells Z81 5)) := by kernel_rfl
theorem Z81_get (j : Nat) (h : j < 81) : Z81[j]? = some (.int .u8 0) := by simp [Z81, h]
theorem conv_of (w : World) (b : Nat) (h : ∀ j, w.cell? ⟨b, j, none⟩ = Z81[j]?) : (convert 22 9 (.slice (some ⟨b, 0, none⟩) 81 81)).run Try.prog w = .ok (.string S81) w := by
  have := run_convert_bytes_back (P := Try.prog) w 22 9 5 ⟨b, 0, none⟩ 81 (List.replicate 81 0) Try.underlying22 Try.underlying5 Try.underlying9 (by
    intro j hj
    have hj' : j < 81 := by simpa using hj
    have e : (⟨b, 0, none⟩ : Addr).add j = ⟨b, j, none⟩ := by unfold Addr.add; split <;> simp_all
    rw [e, h, Z81_get j hj', List.getElem_replicate]; rfl)
  simpa [S81] using this
theorem conv_new (w : World) : (convert 22 9 (.slice (some ⟨w.heap.size, 0, none⟩) 81 81)).run Try.prog (w.alloc (.cells Z81 5)) = .ok (.string S81) (w.alloc (.cells Z81 5)) :=
  conv_of _ _ fun j => World.cell?_alloc_new w Z81 _ j
theorem conv_new' (w : World) : (convert 22 9 (.slice (some ⟨w.heap.size, 0, none⟩) 81 81)).run Try.prog (w.alloc (.cells Z81 5)).drew = .ok (.string S81) (w.alloc (.cells Z81 5)).drew :=
  conv_of _ _ fun j => World.cell?_alloc_new w Z81 _ j
theorem el3 (v : Int) (h0 : 0 ≤ v) (h1 : v < 3) : ∃ s : ByteArray, s.size ≤ 81 ∧ (#[Value.string ⟨#[10]⟩, Value.string S81, Value.string ⟨#[97, 127]⟩] : Array Value)[v.toNat]? = some (.string s) ∧ ([Value.string ⟨#[10]⟩, Value.string S81, Value.string ⟨#[97, 127]⟩] : List Value)[v.toNat]? = some (.string s) := by
  obtain rfl | rfl | rfl : v = 0 ∨ v = 1 ∨ v = 2 := by omega
  · exact ⟨_, by decide, rfl, rfl⟩
  · exact ⟨S81, by decide, rfl, rfl⟩
  · exact ⟨_, by decide, rfl, rfl⟩
set_option maxRecDepth 100000 in
set_option maxHeartbeats 1000000 in
theorem text_draw (W w : World) (g m : Nat) (k : Int) (h : Rd W w g m) (hm : m ≤ 900000) (hk : -1000000 ≤ k) (hk2 : k ≤ 1000000) :
    Calls Try.prog 27 #[.pointer (some ⟨g, 0, none⟩), .int .i64 k] w (DrewStr W w g (m + 2) 81) := by
  go_enter Try.func27, Try.ntmps27
  go_wp2_with (go_at_call 42; refine (odd_any W w g m k h (by omega) hk hk2).mono ?_; rintro e w2 ⟨b, rfl, hr2, hg2⟩)
  · have hmk := make81
    have hcv := conv_new
    have hcv' := conv_new'
    go_region_with (go_at_call 41; refine (pick_any W _ g (m + 1) 3 (by first | exact hr2 | exact hr2.alloc _ | exact (hr2.alloc _).alloc _ | exact hr2.drew | exact (hr2.drew).alloc _ | exact ((hr2.drew).alloc _).alloc _) (by omega)).mono ?_; rintro e w4 ⟨v, hv0, hv1, _, rfl, hr4, hg4⟩; have hv := hv1 (by omega); clear hv1; obtain ⟨s, hs, hel, hel'⟩ := el3 v hv0 hv; have hlt2 := hr2.lt; (try (have hcv2 := conv_of w4 _ (kept_one hg4 hlt2))); (first | (have k1 := kept_two hg4 hlt2 v.toNat; rw [hel] at k1) | (have k1 := kept_two' hg4 hlt2 v.toNat; rw [hel] at k1) | skip))
    all_goals
      go_wp2
      go_ret
      first
        | (refine ⟨s, hs, rfl, ?_, grown_trans hg2 ?_⟩
           all_goals first | exact hr4 | exact hr4.alloc _ | exact (hr4.alloc _).alloc _ | (repeat (first | exact grown_refl _ _ | refine grown_trans ?_ hg4 | refine gs_drew ?_ | refine gs_alloc ?_ _)))
        | ((obtain rfl | rfl | rfl : v = 0 ∨ v = 1 ∨ v = 2 := by omega)
           · refine ⟨_, ?_, rfl, ?_, grown_trans hg2 ?_⟩
             · decide
             all_goals first | exact hr4 | exact hr4.alloc _ | exact (hr4.alloc _).alloc _ | (repeat (first | exact grown_refl _ _ | refine grown_trans ?_ hg4 | refine gs_drew ?_ | refine gs_alloc ?_ _))
           · refine ⟨S81, ?_, rfl, ?_, grown_trans hg2 ?_⟩
             · decide
             all_goals first | exact hr4 | exact hr4.alloc _ | exact (hr4.alloc _).alloc _ | (repeat (first | exact grown_refl _ _ | refine grown_trans ?_ hg4 | refine gs_drew ?_ | refine gs_alloc ?_ _))
           · refine ⟨_, ?_, rfl, ?_, grown_trans hg2 ?_⟩
             · decide
             all_goals first | exact hr4 | exact hr4.alloc _ | exact (hr4.alloc _).alloc _ | (repeat (first | exact grown_refl _ _ | refine grown_trans ?_ hg4 | refine gs_drew ?_ | refine gs_alloc ?_ _)))
  · refine (pick_any W _ g (m + 1) 7 (hr2.alloc _) (by omega)).mono ?_
    rintro e w4 ⟨v, hv0, hv1, _, rfl, hr4, hg4⟩
    have hc := cell_kept hg4 hr2.lt
    have hv := hv1 (by omega)
    have hgg := Lib.hid (grown_trans hg2 (grown_trans (grown_alloc w2 _ _) hg4))
    clear hg4 hg2 hv1
    obtain rfl | rfl | rfl | rfl | rfl | rfl | rfl : v = 0 ∨ v = 1 ∨ v = 2 ∨ v = 3 ∨ v = 4 ∨ v = 5 ∨ v = 6 := by omega
    all_goals
      go_wp2
      go_ret
      exact ⟨_, by decide, rfl, hr4, hgg.out⟩
def DrewInt (W w : World) (g m : Nat) (e : Ending) (w' : World) : Prop := ∃ v : Int, e = .returned (.int .i64 v) ∧ Rd W w' g m ∧ w.grownBy w' (some g)
end Go.Proofs.Ythniiknhbhoncaa
