/-
  The verifier's own text: BothI.
-/
import Derived.Test.YtbljpbmpfmnemaaRows
import Derived.Test.YtbljpbmpfmnemaaGv
import Derived.Test.YtbljpbmpfmnemaaNewS
import Derived.WalkKit
import Derived.ProofKit
import Derived.Below
import Derived.Lib.Hide
import Derived.Outline
import Derived.BigQuiet
import Derived.Deep.QuietTactic
import Derived.Deep.Draws
import Derived.Laws.OwnMore
import Derived.Laws.Rows
import Derived.WalkSpells
import Derived.Deep.RegionWith
namespace Go.Proofs.Ytbljpbmpfmnemaa
open Go.RowKit
set_option linter.unusedVariables false
set_option maxRecDepth 100000 in
set_option maxHeartbeats 2000000 in
theorem bothI_any (v u : Value) (A B : List It) (w : World) (hA : RdG encI w v A) (hB : RdG encI w u B) (fa : FitF A) (fb : FitF B) :
    Calls Try.prog 48 #[v, u] w (GotB (fdB A && fdB B) w) := by
  have hv := Lib.hid (fdI_valid v A w hA fa)
  rcases hFA : fdB A with _ | _
  · have HA := Lib.hid hFA
    clear hFA
    go_enter Try.func48, Try.ntmps48
    go_wp2_with (go_at_call 16; refine hv.out.mono ?_; rintro e w1 ⟨rfl, hb1⟩; rw [HA.out])
    go_ret
    exact ⟨rfl, hb1⟩
  · have HA := Lib.hid hFA
    clear hFA
    go_enter Try.func48, Try.ntmps48
    go_wp2_with fail
    refine hv.out.mono ?_
    rintro e w1 ⟨rfl, hb1⟩
    rw [HA.out]
    have hrd := hB.below hb1
    go_wp2_with fail
    refine (fdI_valid u B _ hrd fb).mono ?_
    rintro e w2 ⟨rfl, hb2⟩
    go_wp2
    go_ret
    exact ⟨rfl, below_trans' hb1 hb2⟩
end Go.Proofs.Ytbljpbmpfmnemaa
