/-
  The verifier's own text: ItemTI.
-/
import Derived.Test.YtfbkloogbpckkaaRows
import Derived.Test.YtfbkloogbpckkaaItemTS
import Derived.Test.YtfbkloogbpckkaaItemVI
import Derived.Test.YtfbkloogbpckkaaGi
import Derived.Deep.RegionHeld3
import Derived.WalkKit
import Derived.ProofKit
import Derived.Below
import Derived.Lib.Hide
import Derived.Outline
import Derived.BigQuiet
import Derived.Deep.QuietTactic
import Derived.Deep.Draws
import Derived.Laws.OwnMore
import Derived.Laws.Rows
import Derived.WalkSpells
import Derived.Deep.RegionWith
namespace Go.Proofs.Ytfbkloogbpckkaa
open Go.RowKit
set_option linter.unusedVariables false
set_option maxRecDepth 100000 in
set_option maxHeartbeats 4000000 in
theorem itI_text (k t b : ByteArray) (d : Int) (w : World) (hf : FitI ⟨k, t, b, d⟩) :
    Calls Try.prog 14 #[.agg #[.string k, .string t, .string b, .int .i64 d]] w (GotStr (itT ⟨k, t, b, d⟩) w) := by
  have hB := Lib.hid ((Below.refl w.heap.size w).alloc (Nat.le_refl _) (.cells #[.string k, .string t, .string b, .int .i64 d] 24))
  have hv := Lib.hid (itI_valid k t b d (w.alloc (.cells #[.string k, .string t, .string b, .int .i64 d] 24)) hf)
  rcases hi : itB ⟨k, t, b, d⟩ with _ | _
  · have HI := Lib.hid hi
    have HR := Lib.hid (itT_out hi)
    clear hi
    go_enter Try.func14, Try.ntmps14
    go_wp2_with (go_at_call 10; refine hv.out.mono ?_; rintro e w2 ⟨rfl, hb2⟩; rw [HI.out]; have hb2 := Lib.hid (below_trans' hB.out hb2))
    go_ret
    exact ⟨by rw [HR.out]; rfl, hb2.out⟩
  · have HI := Lib.hid hi
    have HR := Lib.hid (itT_in hi)
    have hfit : FitE (itE ⟨k, t, b, d⟩) := fitE_of' (itE_valid hi)
    clear hi
    go_enter Try.func14, Try.ntmps14
    go_wp2_with fail
    refine hv.out.mono ?_
    rintro e w2 ⟨rfl, hb2⟩
    rw [HI.out]
    have c : ∀ j u, (#[.string k, .string t, .string b, .int .i64 d] : Array Value)[j]? = some u → w2.drew.cell? ⟨w.heap.size, j, none⟩ = some u := fun j u hj => by
      have := hb2.cell (p := ⟨w.heap.size, j, none⟩) (by simp)
      show w2.cell? _ = _
      rw [this, World.cell?_alloc_new]; exact hj
    have hst := Lib.hid (show w2.drew.cell? ⟨w.heap.size, 0, none⟩ = some (.string k) ∧ w2.drew.cell? ⟨w.heap.size, 1, none⟩ = some (.string t) ∧ w2.drew.cell? ⟨w.heap.size, 2, none⟩ = some (.string b) ∧ w2.drew.cell? ⟨w.heap.size, 3, none⟩ = some (.int .i64 d) ∧ Hid (w.heap.size < w2.drew.heap.size ∧ Below w.heap.size w w2.drew) from
      ⟨c 0 _ rfl, c 1 _ rfl, c 2 _ rfl, c 3 _ rfl, Lib.hid ⟨by have := hb2.size; simp at this; show _ < w2.heap.size; omega, Below.drew (below_trans' hB.out hb2)⟩⟩)
    clear c hb2
    go_wp2
    go_region_held3 (fun w' => w'.cell? ⟨w.heap.size, 0, none⟩ = some (.string k) ∧ w'.cell? ⟨w.heap.size, 1, none⟩ = some (.string t) ∧ w'.cell? ⟨w.heap.size, 2, none⟩ = some (.string b) ∧ w'.cell? ⟨w.heap.size, 3, none⟩ = some (.int .i64 d) ∧ Hid (w.heap.size < w'.heap.size ∧ Below w.heap.size w w'))
      (first | exact hst.out | exact hS5.out | exact hS3.out | exact keep4 (v0 := .string k) (v1 := .string t) (v2 := .string b) (v3 := .int .i64 d) ((Below.refl _ _).alloc (Nat.le_refl _) _) (by assumption) (by assumption) (by assumption) (by assumption) (by assumption) | (go_split_ands; exact keep4 (v0 := .string k) (v1 := .string t) (v2 := .string b) (v3 := .int .i64 d) ((Below.refl _ _).alloc (Nat.le_refl _) _) (by assumption) (by assumption) (by assumption) (by assumption) (by assumption)))
      (first
        | (go_at_call 26; refine (dateI_any d _).mono ?_; rintro e w3 ⟨rfl, hb3⟩; go_split_ands; have hS3 := Lib.hid (keep4 (W := w) (v0 := .string k) (v1 := .string t) (v2 := .string b) (v3 := .int .i64 d) hb3 (by assumption) (by assumption) (by assumption) (by assumption) (by assumption)))
        | (go_at_call 30; refine (elI_text _ (itE ⟨k, t, b, d⟩) _ (rd_itE _ k t b d) hfit).mono ?_; rintro e w5 ⟨rfl, hb5⟩; go_split_ands; have hS5 := Lib.hid (keep4 (W := w) (v0 := .string k) (v1 := .string t) (v2 := .string b) (v3 := .int .i64 d) hb5 (by assumption) (by assumption) (by assumption) (by assumption) (by assumption))))
    go_split_ands
    rename Hid (w.heap.size < _ ∧ _) => hS
    go_wp2
    go_ret
    exact ⟨by rw [HR.out]; rfl, hS.out.2⟩
end Go.Proofs.Ytfbkloogbpckkaa
