/-
  The verifier's own text: ItemTS.
-/
import Derived.Test.YtfbkloogbpckkaaRows
import Derived.Test.YtfbkloogbpckkaaItemS
import Derived.Test.YtfbkloogbpckkaaGi
import Derived.Test.YtfbkloogbpckkaaGb
import Derived.Deep.RegionHeld3
import Derived.WalkKit
import Derived.ProofKit
import Derived.Below
import Derived.Lib.Hide
import Derived.Outline
import Derived.BigQuiet
import Derived.Deep.QuietTactic
import Derived.Deep.Draws
import Derived.Laws.OwnMore
import Derived.Laws.Rows
import Derived.WalkSpells
import Derived.Deep.RegionWith
namespace Go.Proofs.Ytfbkloogbpckkaa
open Go.RowKit
set_option linter.unusedVariables false
theorem keep4 {W w2 w3 : World} {g : Nat} {v0 v1 v2 v3 : Value} (hb : Below w2.heap.size w2 w3) (h0 : w2.cell? ⟨g, 0, none⟩ = some v0) (h1 : w2.cell? ⟨g, 1, none⟩ = some v1) (h2 : w2.cell? ⟨g, 2, none⟩ = some v2) (h3 : w2.cell? ⟨g, 3, none⟩ = some v3) (h : Hid (g < w2.heap.size ∧ Below W.heap.size W w2)) :
    w3.cell? ⟨g, 0, none⟩ = some v0 ∧ w3.cell? ⟨g, 1, none⟩ = some v1 ∧ w3.cell? ⟨g, 2, none⟩ = some v2 ∧ w3.cell? ⟨g, 3, none⟩ = some v3 ∧ Hid (g < w3.heap.size ∧ Below W.heap.size W w3) :=
  ⟨by rw [hb.cell (p := ⟨g, 0, none⟩) h.out.1]; exact h0, by rw [hb.cell (p := ⟨g, 1, none⟩) h.out.1]; exact h1, by rw [hb.cell (p := ⟨g, 2, none⟩) h.out.1]; exact h2, by rw [hb.cell (p := ⟨g, 3, none⟩) h.out.1]; exact h3, Lib.hid ⟨Nat.lt_of_lt_of_le h.out.1 hb.size, below_trans' h.out.2 hb⟩⟩
theorem fitE_of' {L : EL} (h : elB L = true) : FitE L := by
  intro e m
  have := okE_of (elB_mem h e m)
  have h1 := (word_len this.1).2
  have h2 := textB_len this.2
  rw [blen] at h1 h2
  omega
/-- the elements of an item, as a literal row -/
theorem rd_itE (w : World) (k t b : ByteArray) (d : Int) : RdG encE (w.alloc (.cells #[.string kKey, .string k, .string kTitle, .string t, .string kBody, .string b, .string kDay, .string (bs (dateT d))] 45)) (.slice (some ⟨w.heap.size, 0, none⟩) 4 4) (itE ⟨k, t, b, d⟩) := by
  have h := World.ownsRow_lit (e := 45) (size := 2) (base := 0) w #[.string kKey, .string k, .string kTitle, .string t, .string kBody, .string b, .string kDay, .string (bs (dateT d))] 4 (Nat.zero_le _) (by simp [maxLen]) rfl
  have h' : OwnE (w.alloc (.cells #[.string kKey, .string k, .string kTitle, .string t, .string kBody, .string b, .string kDay, .string (bs (dateT d))] 45)) 0 (.slice (some ⟨w.heap.size, 0, none⟩) 4 4) (itE ⟨k, t, b, d⟩) := h
  exact OwnG.rd h'
set_option maxRecDepth 100000 in
set_option maxHeartbeats 4000000 in
theorem itS_text (k t b : ByteArray) (d : Int) (w : World) (hf : FitI ⟨k, t, b, d⟩) :
    Calls Try.prog 15 #[.agg #[.string k, .string t, .string b, .int .i64 d]] w (GotStr (itT ⟨k, t, b, d⟩) w) := by
  have hB := Lib.hid ((Below.refl w.heap.size w).alloc (Nat.le_refl _) (.cells #[.string k, .string t, .string b, .int .i64 d] 24))
  have hv := Lib.hid (itS_valid k t b d (w.alloc (.cells #[.string k, .string t, .string b, .int .i64 d] 24)) hf)
  rcases hi : itB ⟨k, t, b, d⟩ with _ | _
  · have HI := Lib.hid hi
    have HR := Lib.hid (itT_out hi)
    clear hi
    go_enter Try.func15, Try.ntmps15
    go_wp2_with (go_at_call 11; refine hv.out.mono ?_; rintro e w2 ⟨rfl, hb2⟩; rw [HI.out]; have hb2 := Lib.hid (below_trans' hB.out hb2))
    go_ret
    exact ⟨by rw [HR.out]; rfl, hb2.out⟩
  · have HI := Lib.hid hi
    have HR := Lib.hid (itT_in hi)
    have hfit : FitE (itE ⟨k, t, b, d⟩) := fitE_of' (itE_valid hi)
    clear hi
    go_enter Try.func15, Try.ntmps15
    go_wp2_with fail
    refine hv.out.mono ?_
    rintro e w2 ⟨rfl, hb2⟩
    rw [HI.out]
    have c : ∀ j u, (#[.string k, .string t, .string b, .int .i64 d] : Array Value)[j]? = some u → w2.drew.cell? ⟨w.heap.size, j, none⟩ = some u := fun j u hj => by
      have := hb2.cell (p := ⟨w.heap.size, j, none⟩) (by simp)
      show w2.cell? _ = _
      rw [this, World.cell?_alloc_new]; exact hj
    have hst := Lib.hid (show w2.drew.cell? ⟨w.heap.size, 0, none⟩ = some (.string k) ∧ w2.drew.cell? ⟨w.heap.size, 1, none⟩ = some (.string t) ∧ w2.drew.cell? ⟨w.heap.size, 2, none⟩ = some (.string b) ∧ w2.drew.cell? ⟨w.heap.size, 3, none⟩ = some (.int .i64 d) ∧ Hid (w.heap.size < w2.drew.heap.size ∧ Below w.heap.size w w2.drew) from
      ⟨c 0 _ rfl, c 1 _ rfl, c 2 _ rfl, c 3 _ rfl, Lib.hid ⟨by have := hb2.size; simp at this; show _ < w2.heap.size; omega, Below.drew (below_trans' hB.out hb2)⟩⟩)
    clear c hb2
    go_wp2
    go_region_held3 (fun w' => w'.cell? ⟨w.heap.size, 0, none⟩ = some (.string k) ∧ w'.cell? ⟨w.heap.size, 1, none⟩ = some (.string t) ∧ w'.cell? ⟨w.heap.size, 2, none⟩ = some (.string b) ∧ w'.cell? ⟨w.heap.size, 3, none⟩ = some (.int .i64 d) ∧ Hid (w.heap.size < w'.heap.size ∧ Below w.heap.size w w'))
      (first | exact hst.out | exact hS5.out | exact hS3.out | exact keep4 (v0 := .string k) (v1 := .string t) (v2 := .string b) (v3 := .int .i64 d) ((Below.refl _ _).alloc (Nat.le_refl _) _) (by assumption) (by assumption) (by assumption) (by assumption) (by assumption) | (go_split_ands; exact keep4 (v0 := .string k) (v1 := .string t) (v2 := .string b) (v3 := .int .i64 d) ((Below.refl _ _).alloc (Nat.le_refl _) _) (by assumption) (by assumption) (by assumption) (by assumption) (by assumption)))
      (first
        | (go_at_call 29; refine (dateS_any d _).mono ?_; rintro e w3 ⟨rfl, hb3⟩; go_split_ands; have hS3 := Lib.hid (keep4 (W := w) (v0 := .string k) (v1 := .string t) (v2 := .string b) (v3 := .int .i64 d) hb3 (by assumption) (by assumption) (by assumption) (by assumption) (by assumption)))
        | (go_at_call 31; refine (elS_text _ (itE ⟨k, t, b, d⟩) _ (rd_itE _ k t b d) hfit).mono ?_; rintro e w5 ⟨rfl, m5, rfl⟩; go_split_ands; have hS5 := Lib.hid (keep4 (W := w) (v0 := .string k) (v1 := .string t) (v2 := .string b) (v3 := .int .i64 d) (below_drewN _ m5) (by assumption) (by assumption) (by assumption) (by assumption) (by assumption))))
    go_split_ands
    rename Hid (w.heap.size < _ ∧ _) => hS
    go_wp2
    go_ret
    exact ⟨by rw [HR.out]; rfl, hS.out.2⟩
end Go.Proofs.Ytfbkloogbpckkaa
