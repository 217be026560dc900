/-
  The verifier's own text: FwI FdVI FdWI FdLI FdRI.
-/
import Derived.Test.YteknjaocamlcpaaRows
import Derived.Test.YteknjaocamlcpaaGq
import Derived.Test.YteknjaocamlcpaaGn
import Derived.Test.YteknjaocamlcpaaGp
import Derived.Test.YteknjaocamlcpaaGt
import Derived.WalkKit
import Derived.ProofKit
import Derived.Below
import Derived.Lib.Hide
import Derived.Outline
import Derived.BigQuiet
import Derived.Deep.QuietTactic
import Derived.Deep.Draws
import Derived.Laws.OwnMore
import Derived.Laws.Rows
import Derived.WalkSpells
import Derived.Deep.RegionWith
namespace Go.Proofs.Yteknjaocamlcpaa
open Go.RowKit
set_option linter.unusedVariables false
set_option maxRecDepth 100000 in
set_option maxHeartbeats 4000000 in
theorem fwI_any (v : Value) (L : List It) (n : ByteArray) (w : World) (h : RdG encI w v L) :
    Calls Try.prog 42 #[v, .string n] w (GotIW (itW1 L n) w) := by
  obtain ⟨w1, hw1⟩ : ∃ w1, w.alloc (.cells #[.string ⟨#[]⟩, .string ⟨#[]⟩, .string ⟨#[]⟩, .int .i64 0] 28) = w1 := ⟨_, rfl⟩
  have hb01 : Below w.heap.size w w1 := by rw [← hw1]; exact (Below.refl _ _).alloc (Nat.le_refl _) _
  have hrd1 := h.below hb01
  have hfin : ∀ wX, Below w1.heap.size w1 wX → (wX.cell? ⟨w.heap.size, 0, none⟩ = some (.string ⟨#[]⟩) ∧ wX.cell? ⟨w.heap.size, 1, none⟩ = some (.string ⟨#[]⟩) ∧ wX.cell? ⟨w.heap.size, 2, none⟩ = some (.string ⟨#[]⟩) ∧ wX.cell? ⟨w.heap.size, 3, none⟩ = some (.int .i64 0) ∧ (∀ j, wX.frozen? ⟨w.heap.size, j, none⟩ = false) ∧ Below w.heap.size w wX) := fun wX hX => zeroI hw1 hX
  have hfin := Lib.hid hfin
  clear hb01 h
  by_cases hL : L = []
  · subst hL
    obtain ⟨A, c, rfl, hc⟩ := hrd1.nil
    obtain ⟨z0, z1, z2, z3, zf, hbw⟩ := hfin.out w1 (Below.refl _ _)
    have HBw := Lib.hid hbw
    clear hbw
    go_enter Try.func42, Try.ntmps42
    go_wp2
    refine wp_loop_rounds 1 ?_
    rw [rounds_succ]; go_wp2
    refine bodyPost_ret (v := .tuple #[.agg #[.string ⟨#[]⟩, .string ⟨#[]⟩, .string ⟨#[]⟩, .int .i64 0], .bool false]) (by simp [results, Try.results42, go_sem, z0, z1, z2, z3]) rfl ⟨rfl, ?_⟩
    exact (((HBw.out.setCell (Nat.le_refl _) _).setCell (Nat.le_refl _) _).setCell (Nat.le_refl _) _).setCell (Nat.le_refl _) _
  · have hpos : 0 < L.length := List.length_pos_iff.2 hL
    obtain ⟨b, o, c, rfl, h1, h2, hb, h4⟩ := hrd1.some hL
    unfold maxLen at h2
    have hcells := Lib.hid (fun k (hk : k < L.length) => rdI_cells h4 hk)
    clear h4 hL hrd1
    go_enter Try.func42, Try.ntmps42
    go_wp2
    have hw1 := Lib.hid hw1
    go_loopw [10] (fun i wr => ∃ k : Nat, k ≤ L.length ∧ i = .int .i64 k ∧ Hid (∀ i (hi : i < L.length), i < k → L[i].key ≠ n) ∧ Hid (Below w1.heap.size w1 wr)) (fun i _ => L.length - (intOf i).toNat)
    case atStart => exact ⟨0, Nat.zero_le _, rfl, Lib.hid (by intro i hi h; omega), Lib.hid (Below.refl _ _)⟩
    case round =>
      obtain ⟨k, hk, rfl, hp, hbr⟩ := hrel
      by_cases hlt : k < L.length
      · obtain ⟨c0, c1, c2, c3⟩ := rdI_at hcells.out hb hbr.out hlt
        have hat := fun q => itW1_at (n := n) hlt hp.out q
        have hno : L[k].key ≠ n → ∀ i (hi : i < L.length), i < k + 1 → L[i].key ≠ n := fun q i hi hik => by
          by_cases e : i = k
          · subst e; exact q
          · exact hp.out i hi (by omega)
        obtain ⟨e, he⟩ : ∃ e, L[k] = e := ⟨_, rfl⟩
        rw [he] at c0 c1 c2 c3 hat hno
        obtain ⟨ky, ti, bo, da⟩ := e
        simp only at c0 c1 c2 c3 hat hno
        have hj0 : (0 : Int) ≤ (k : Int) := by omega
        have hjj : (k : Int) < (L.length : Int) := by omega
        obtain ⟨w3, hw3⟩ : ∃ w3, wr.alloc (.cells #[.string ky, .string ti, .string bo, .int .i64 da] 28) = w3 := ⟨_, rfl⟩
        have hB3 : Hid (Below w1.heap.size w1 w3) := Lib.hid (by rw [← hw3]; exact hbr.out.alloc hbr.out.size _)
        obtain ⟨d0, d1, d2, d3⟩ := row4 hw3 (Below.refl _ _)
        obtain ⟨z0, z1, z2, z3, zf, hbw⟩ := hfin.out w3 hB3.out
        have HBw := Lib.hid hbw
        clear hbw
        by_cases hn : ky = n
        · have HR := Lib.hid (hat hn)
          have q := str_same hn
          clear hat hno he hn
          go_wp2
          refine bodyPost_ret (v := .tuple #[.agg #[.string ky, .string ti, .string bo, .int .i64 da], .bool true]) (by simp [results, Try.results42, go_sem, z0, z1, z2, z3]) rfl ⟨by rw [HR.out], ?_⟩
          exact (((HBw.out.setCell (Nat.le_refl _) _).setCell (Nat.le_refl _) _).setCell (Nat.le_refl _) _).setCell (Nat.le_refl _) _
        · have HN := Lib.hid (hno hn)
          have q := str_other hn
          clear hat hno he hn
          go_wp2
          go_roundw
          case rel => exact ⟨k + 1, by omega, by go_num, HN, hB3⟩
          case measure => simp [intOf]; omega
      · have HR := Lib.hid (itW1_none (L := L) (n := n) (fun i hi => hp.out i hi (by omega)))
        obtain ⟨z0, z1, z2, z3, zf, hbw⟩ := hfin.out wr hbr.out
        have HBw := Lib.hid hbw
        clear hbw
        go_wp2
        refine bodyPost_ret (v := .tuple #[.agg #[.string ⟨#[]⟩, .string ⟨#[]⟩, .string ⟨#[]⟩, .int .i64 0], .bool false]) (by simp [results, Try.results42, go_sem, z0, z1, z2, z3]) rfl ⟨by rw [HR.out]; rfl, ?_⟩
        exact (((HBw.out.setCell (Nat.le_refl _) _).setCell (Nat.le_refl _) _).setCell (Nat.le_refl _) _).setCell (Nat.le_refl _) _
theorem itW1_had {L : List It} {n : ByteArray} {i : It} (h : itW1 L n = (i, true)) : ∃ j, ∃ hj : j < L.length, L[j].key = n := by
  by_cases q : ∃ j, ∃ hj : j < L.length, L[j].key = n
  · exact q
  · rw [itW1_none (fun j hj e => q ⟨j, hj, e⟩)] at h; cases h
theorem itW1_not {L : List It} {n : ByteArray} {i : It} (h : itW1 L n = (i, false)) : ∀ j (hj : j < L.length), L[j].key ≠ n := by
  induction L with
  | nil => intro j hj; simp at hj
  | cons a L ih =>
    unfold itW1 at h
    split at h
    · cases h
    · rename_i q
      intro j hj
      cases j with
      | zero => exact q
      | succ j => exact ih h j (by simpa using hj)
theorem fdB_big {L : List It} (h : 8 < L.length) : fdB L = false := by
  rcases q : fdB L with _ | _
  · rfl
  · have := (fdB_of q).1; omega
theorem backZ {w3 w4 : World} (h : Below (w3.alloc (.cells #[.string ⟨#[]⟩, .string ⟨#[]⟩, .string ⟨#[]⟩, .int .i64 0] 28)).drew.heap.size (w3.alloc (.cells #[.string ⟨#[]⟩, .string ⟨#[]⟩, .string ⟨#[]⟩, .int .i64 0] 28)).drew w4) :
    Below w3.heap.size w3 w4 ∧ w4.cell? ⟨w3.heap.size, 0, none⟩ = some (.string ⟨#[]⟩) ∧ w4.cell? ⟨w3.heap.size, 1, none⟩ = some (.string ⟨#[]⟩) ∧ w4.cell? ⟨w3.heap.size, 2, none⟩ = some (.string ⟨#[]⟩) ∧ w4.cell? ⟨w3.heap.size, 3, none⟩ = some (.int .i64 0) ∧ (∀ j, w4.frozen? ⟨w3.heap.size, j, none⟩ = false) := by
  have h' : Below (w3.alloc (.cells #[.string ⟨#[]⟩, .string ⟨#[]⟩, .string ⟨#[]⟩, .int .i64 0] 28)).heap.size (w3.alloc (.cells #[.string ⟨#[]⟩, .string ⟨#[]⟩, .string ⟨#[]⟩, .int .i64 0] 28)) w4 := Below.trans (Below.drew (Below.refl _ _)) h
  obtain ⟨a, b, c, d, e, f⟩ := zeroI rfl h'
  exact ⟨f, a, b, c, d, e⟩
set_option maxRecDepth 100000 in
set_option maxHeartbeats 4000000 in
theorem fdI_valid (v : Value) (L : List It) (w : World) (h : RdG encI w v L) (hf : FitF L) :
    Calls Try.prog 13 #[v] w (GotB (fdB L) w) := by
  by_cases h8 : 8 < L.length
  · have hL : L ≠ [] := by intro e; rw [e] at h8; simp at h8
    obtain ⟨b, o, c, rfl, h1, h2, hb, h4⟩ := h.some hL
    unfold maxLen at h2
    have HR := Lib.hid (fdB_big h8)
    clear h4 hL
    go_enter Try.func13, Try.ntmps13
    go_wp2
    go_ret
    exact ⟨ret_bool HR.out.symm, Below.refl _ _⟩
  by_cases hL : L = []
  · subst hL
    obtain ⟨A, c, rfl, hc⟩ := h.nil
    go_enter Try.func13, Try.ntmps13
    go_wp2
    refine wp_loop_rounds 1 ?_
    rw [rounds_succ]; go_wp2
    go_ret
    exact ⟨rfl, Below.refl _ _⟩
  · have hrd := h
    obtain ⟨b, o, c, rfl, h1, h2, hb, h4⟩ := h.some hL
    have h2' := Lib.hid h2
    unfold maxLen at h2
    have hcells := Lib.hid (fun k (hk : k < L.length) => rdI_cells h4 hk)
    have hrd := Lib.hid hrd
    clear h4 hL h
    go_enter Try.func13, Try.ntmps13
    go_wp2
    go_loopw [12] (fun i wr => ∃ k : Nat, k ≤ L.length ∧ i = .int .i64 k ∧ Hid (PreF L k) ∧ Hid (Below w.heap.size w wr)) (fun i _ => L.length - (intOf i).toNat)
    case atStart => exact ⟨0, Nat.zero_le _, rfl, Lib.hid (preF_zero L), Lib.hid (Below.refl _ _)⟩
    case round =>
      obtain ⟨k, hk, rfl, hp, hbr⟩ := hrel
      by_cases hlt : k < L.length
      · obtain ⟨c0, c1, c2, c3⟩ := rdI_at hcells.out hb hbr.out hlt
        have hfi := hf _ (List.getElem_mem hlt)
        have hbad := fun q => fdB_item (L := L) hlt q
        have hnext := fun q d => preF_next (L := L) hlt hp.out q d
        have htw := fun j hj e => fdB_twice (L := L) (j := j) hj hlt e
        obtain ⟨e, he⟩ : ∃ e, L[k] = e := ⟨_, rfl⟩
        rw [he] at c0 c1 c2 c3 hfi hbad hnext htw
        obtain ⟨ky, ti, bo, da⟩ := e
        simp only at c0 c1 c2 c3 hnext htw
        have hjj : (k : Int) < (L.length : Int) := by omega
        have hkk0 : (0 : Int) ≤ (k : Int) := by omega
        have hkc : k ≤ c := by omega
        have hkc' : (k : Int) ≤ (c : Int) := by omega
        obtain ⟨w3, hw3⟩ : ∃ w3, wr.alloc (.cells #[.string ky, .string ti, .string bo, .int .i64 da] 28) = w3 := ⟨_, rfl⟩
        have hB3 : Hid (Below w.heap.size w w3) := Lib.hid (by rw [← hw3]; exact hbr.out.alloc hbr.out.size _)
        obtain ⟨d0, d1, d2, d3⟩ := row4 hw3 (Below.refl _ _)
        have hrw := Lib.hid (fun wX hX => row4 (wX := wX) hw3 hX)
        have hlt3 : wr.heap.size < w3.heap.size := by rw [← hw3]; simp
        have hne3 : ¬ (wr.heap.size = w3.heap.size) := by omega
        obtain ⟨p, hpW⟩ : ∃ p, itW1 (L.take k) ky = p := ⟨_, rfl⟩
        have hcall : Hid (∀ wz, Below w3.heap.size w3 wz → Calls Try.prog 42 #[.slice (some ⟨b, o, none⟩) k c, .string ky] wz (GotIW p wz)) := Lib.hid (fun wz hz => by
          rw [← hpW]
          exact fwI_any _ _ _ _ (rdG_take encI_len ((hrd.out.below hB3.out).below hz) k hk c hkc h2'.out))
        obtain ⟨⟨x0, x1, x2, x3⟩, had⟩ := p
        go_wp2
        go_region_with (first
          | (go_at_call 42; refine (hcall.out _ (Below.drew (Below.refl _ _))).mono ?_; rintro e w4 ⟨rfl, hb4⟩; have hB4 : Hid (Below w3.heap.size w3 w4) := Lib.hid (Below.trans (Below.drew (Below.refl _ _)) hb4); clear hb4)
          | (go_at_call 42; refine (hcall.out _ (Below.drew ((Below.refl _ _).alloc (Nat.le_refl _) _))).mono ?_; rintro e w4 ⟨rfl, hb4⟩; obtain ⟨hB4, y0, y1, y2, y3, yf⟩ := backZ hb4; have hB4 := Lib.hid hB4; clear hb4))
        all_goals
          first
            | (clear y0 y1 y2 y3 yf
               have hB5 : Hid (Below w3.heap.size w3 ((((w4.setCell ⟨w3.heap.size, 0, none⟩ (.string x0)).setCell ⟨w3.heap.size, 1, none⟩ (.string x1)).setCell ⟨w3.heap.size, 2, none⟩ (.string x2)).setCell ⟨w3.heap.size, 3, none⟩ (.int .i64 x3))) := Lib.hid ((((hB4.out.setCell (Nat.le_refl _) _).setCell (Nat.le_refl _) _).setCell (Nat.le_refl _) _).setCell (Nat.le_refl _) _)
               generalize (((w4.setCell ⟨w3.heap.size, 0, none⟩ (.string x0)).setCell ⟨w3.heap.size, 1, none⟩ (.string x1)).setCell ⟨w3.heap.size, 2, none⟩ (.string x2)).setCell ⟨w3.heap.size, 3, none⟩ (.int .i64 x3) = w5 at hB5 ⊢)
            | (have hB5 : Hid (Below w3.heap.size w3 (w4.alloc (.cells #[.string x0, .string x1, .string x2, .int .i64 x3] 28))) := Lib.hid (hB4.out.alloc hB4.out.size _)
               generalize w4.alloc (.cells #[.string x0, .string x1, .string x2, .int .i64 x3] 28) = w5 at hB5 ⊢)
          clear d0 d1 d2 d3 hB4 c0 c1 c2 c3
          obtain ⟨d0, d1, d2, d3⟩ := hrw.out w5 hB5.out
          have hB6 := Lib.hid (below_trans' hB3.out hB5.out)
          rcases had with _ | _
          · have hnot := Lib.hid (itW1_not hpW)
            have hd : ∀ j (hj : j < k), (L[j]'(by omega)).key ≠ ky := fun j hj => by have := hnot.out j (by rw [List.length_take]; omega); rwa [List.getElem_take] at this
            go_wp2_with fail
            refine (itI_valid ky ti bo da _ hfi).mono ?_
            rintro e w6 ⟨rfl, hb6⟩
            have hB7 := Lib.hid (below_trans' hB6.out hb6)
            clear hb6
            rcases hi : itB ⟨ky, ti, bo, da⟩ with _ | _
            · have HR := Lib.hid (hbad hi)
              go_wp2
              go_ret
              exact ⟨ret_bool HR.out.symm, hB7.out⟩
            · have HN := Lib.hid (hnext hi hd)
              go_wp2
              go_roundw
              case rel => exact ⟨k + 1, by omega, by go_num, HN, hB7⟩
              case measure => simp [intOf]; omega
          · obtain ⟨j, hj, hjk⟩ := itW1_had hpW
            rw [List.length_take] at hj
            rw [List.getElem_take] at hjk
            have HR := Lib.hid (htw j (by omega) hjk)
            go_wp2
            go_ret
            exact ⟨ret_bool HR.out.symm, hB6.out⟩
      · have hr := Lib.hid (preF_end (by omega) hp.out)
        have h8' : decide ((L.length : Int) ≤ 8) = true := decide_eq_true (by omega)
        go_wp2
        go_ret
        exact ⟨ret_bool (by rw [← hr.out, h8']), hbr.out⟩
set_option maxRecDepth 100000 in
set_option maxHeartbeats 4000000 in
theorem fdI_with (v : Value) (L : List It) (n : ByteArray) (w : World) (h : RdG encI w v L) (hf : FitF L) :
    Calls Try.prog 25 #[v, .string n] w (GotIW (itW L n) w) := by
  obtain ⟨w1, hw1⟩ : ∃ w1, w.alloc (.cells #[.string ⟨#[]⟩, .string ⟨#[]⟩, .string ⟨#[]⟩, .int .i64 0] 28) = w1 := ⟨_, rfl⟩
  have hb01 : Below w.heap.size w w1 := by rw [← hw1]; exact (Below.refl _ _).alloc (Nat.le_refl _) _
  have hrd1 := h.below hb01
  have hfin : ∀ wX, Below w1.heap.size w1 wX → (wX.cell? ⟨w.heap.size, 0, none⟩ = some (.string ⟨#[]⟩) ∧ wX.cell? ⟨w.heap.size, 1, none⟩ = some (.string ⟨#[]⟩) ∧ wX.cell? ⟨w.heap.size, 2, none⟩ = some (.string ⟨#[]⟩) ∧ wX.cell? ⟨w.heap.size, 3, none⟩ = some (.int .i64 0) ∧ (∀ j, wX.frozen? ⟨w.heap.size, j, none⟩ = false) ∧ Below w.heap.size w wX) := fun wX hX => zeroI hw1 hX
  have hfin := Lib.hid hfin
  clear hb01 h
  go_enter Try.func25, Try.ntmps25
  go_wp2_with fail
  have hw1 := Lib.hid hw1
  refine (fdI_valid v L _ hrd1 hf).mono ?_
  rintro e w3 ⟨rfl, hb3⟩
  have hrd3 := hrd1.below hb3
  have hB3 := Lib.hid hb3
  clear hb3
  rcases hF : fdB L with _ | _
  · have HR := Lib.hid (itW_out n hF)
    obtain ⟨z0, z1, z2, z3, zf, hbw⟩ := hfin.out w3 hB3.out
    have HBw := Lib.hid hbw
    clear hbw
    go_wp2
    refine bodyPost_ret (v := .tuple #[.agg #[.string ⟨#[]⟩, .string ⟨#[]⟩, .string ⟨#[]⟩, .int .i64 0], .bool false]) (by simp [results, Try.results25, go_sem, z0, z1, z2, z3]) rfl ⟨by rw [HR.out]; rfl, ?_⟩
    exact (((HBw.out.setCell (Nat.le_refl _) _).setCell (Nat.le_refl _) _).setCell (Nat.le_refl _) _).setCell (Nat.le_refl _) _
  · have HX := Lib.hid (itW_in n hF)
    go_wp2_with fail
    refine (fwI_any v L n _ hrd3).mono ?_
    rintro e w4 ⟨rfl, hb4⟩
    have hB4 := Lib.hid (below_trans' hB3.out hb4)
    obtain ⟨z0, z1, z2, z3, zf, hbw⟩ := hfin.out w4 hB4.out
    have HBw := Lib.hid hbw
    clear hbw hb4
    obtain ⟨p, hp⟩ : ∃ p, itW1 L n = p := ⟨_, rfl⟩
    rw [hp] at HX ⊢
    obtain ⟨⟨x0, x1, x2, x3⟩, had⟩ := p
    go_wp2
    refine bodyPost_ret (v := .tuple #[.agg #[.string x0, .string x1, .string x2, .int .i64 x3], .bool had]) (by simp [results, Try.results25, go_sem, z0, z1, z2, z3]) rfl ⟨by rw [HX.out], ?_⟩
    exact (((HBw.out.setCell (Nat.le_refl _) _).setCell (Nat.le_refl _) _).setCell (Nat.le_refl _) _).setCell (Nat.le_refl _) _
set_option maxRecDepth 100000 in
set_option maxHeartbeats 4000000 in
theorem fdI_lines (v : Value) (L : List It) (w : World) (h : RdG encI w v L) (hf : FitF L) :
    Calls Try.prog 17 #[v] w (GotLS (fdL L) w) := by
  have hv := Lib.hid (fdI_valid v L w h hf)
  rcases hB : fdB L with _ | _
  · have HB := Lib.hid hB
    have HR := Lib.hid (fdL_out hB)
    clear hB
    go_enter Try.func17, Try.ntmps17
    go_wp2_with (go_at_call 13; refine hv.out.mono ?_; rintro e w1 ⟨rfl, hb1⟩; rw [HB.out])
    go_ret
    exact ⟨_, rfl, by rw [HR.out]; exact ownG_nil _ _ _ _ _, hb1⟩
  · have HB := Lib.hid hB
    have HX := Lib.hid (fdL_in hB)
    have h8 := (fdB_of hB).1
    clear hB
    by_cases hL : L = []
    · subst hL
      obtain ⟨A, c, rfl, hc⟩ := h.nil
      go_enter Try.func17, Try.ntmps17
      go_wp2_with (first | (go_at_call 13; refine hv.out.mono ?_; rintro e w1 ⟨rfl, hb1⟩; rw [HB.out]) | (at_make; refine make_strs rfl _ _ rfl 0 rfl rfl (by omega) ?_; intro w2 hown0 hb0))
      refine wp_loop_rounds 1 ?_
      rw [rounds_succ]; go_wp2
      go_ret
      exact ⟨_, rfl, OwnG.base hown0 hb1.size, below_trans' hb1 hb0⟩
    · obtain ⟨b, o, c, rfl, h1, h2, hb, h4⟩ := h.some hL
      unfold maxLen at h2
      have hcells := Lib.hid (fun k (hk : k < L.length) => rdI_cells h4 hk)
      clear h4 hL h
      go_enter Try.func17, Try.ntmps17
      go_wp2_with (first | (go_at_call 13; refine hv.out.mono ?_; rintro e w1 ⟨rfl, hb1⟩; rw [HB.out]) | (at_make; refine make_strs rfl _ _ rfl L.length rfl rfl (by omega) ?_; intro w2 hown0 hb0))
      have hb2 := Lib.hid (below_trans' hb1 hb0)
      have hown2 := Lib.hid (OwnG.base hown0 hb1.size)
      clear hb1 hb0 hown0
      go_loopw [3, 14] (fun x i wr => ∃ (k : Nat) (y : Value), k ≤ L.length ∧ i = .int .i64 k ∧ y = x ∧ Hid (OwnS wr w.heap.size y ((L.take k).map fun i => bs (itT i))) ∧ Hid (Below w.heap.size w wr)) (fun _ i _ => L.length - (intOf i).toNat)
      case atStart => exact ⟨0, _, Nat.zero_le _, rfl, rfl, hown2, hb2⟩
      case round =>
        obtain ⟨k, y, hk, rfl, rfl, hown, hbr⟩ := hrel
        obtain ⟨A, c2, hy⟩ := OwnS.shape hown.out
        have hlk : ((L.take k).map fun i => bs (itT i)).length = k := by rw [List.length_map, List.length_take]; omega
        rw [hlk] at hy
        subst hy
        clear hlk
        by_cases hlt : k < L.length
        · obtain ⟨c0, c1, c2, c3⟩ := rdI_at hcells.out hb hbr.out hlt
          have hfi := hf _ (List.getElem_mem hlt)
          have hmt := Lib.hid (map_take (fun i => bs (itT i)) hlt)
          obtain ⟨e, he⟩ : ∃ e, L[k] = e := ⟨_, rfl⟩
          rw [he] at c0 c1 c2 c3 hfi hmt
          obtain ⟨ky, ti, bo, da⟩ := e
          simp only at c0 c1 c2 c3
          have hj0 : (0 : Int) ≤ (k : Int) := by omega
          have hjj : (k : Int) < (L.length : Int) := by omega
          have hll : ((L.take k).map fun i => bs (itT i)).length ≤ 1073741824 := by rw [List.length_map]; have := List.length_take_le k L; omega
          obtain ⟨w3, hw3⟩ : ∃ w3, wr.alloc (.cells #[.string ky, .string ti, .string bo, .int .i64 da] 28) = w3 := ⟨_, rfl⟩
          have hB3 : Hid (Below w.heap.size w w3) := Lib.hid (by rw [← hw3]; exact hbr.out.alloc hbr.out.size _)
          have hown3 : Hid (OwnS w3 w.heap.size _ _) := Lib.hid (by rw [← hw3]; exact OwnG.grown hown.out ((Below.refl _ _).alloc (Nat.le_refl _) _))
          obtain ⟨d0, d1, d2, d3⟩ := row4 hw3 (Below.refl _ _)
          clear he
          go_wp2_with fail
          refine (itI_text ky ti bo da _ hfi).mono ?_
          rintro e w5 ⟨rfl, hb5⟩
          have hown5 := Lib.hid (OwnG.grown hown3.out hb5)
          have hB5 := Lib.hid (below_trans' hB3.out hb5)
          have hsz5 := hB5.out.size
          clear hb5
          go_wp2_with (at_builtin; refine app_str rfl (.tmp 18) (.tmp 21) rfl w.heap.size _ ((L.take k).map fun i => bs (itT i)) (bs (itT ⟨ky, ti, bo, da⟩)) rfl hown5.out hsz5 _ rfl rfl hll ?_; intro v6 w6 hown6 hg6; have hB6 := Lib.hid (own_below hown5.out hB5.out hg6); have hown6 := Lib.hid hown6; clear hg6)
          go_roundw
          case rel => exact ⟨k + 1, _, by omega, by go_num, rfl, by rw [hmt.out]; exact hown6, hB6⟩
          case measure => simp [intOf]; omega
        · have HR : Hid (fdL L = (L.take k).map fun i => bs (itT i)) := Lib.hid (by rw [HX.out, List.take_of_length_le (by omega)])
          go_wp2
          go_ret
          exact ⟨_, rfl, by rw [HR.out]; exact hown.out, hbr.out⟩
theorem itW1_key {L : List It} {n : ByteArray} {i : It} (h : itW1 L n = (i, true)) : n ∈ L.map It.key := by
  obtain ⟨j, hj, e⟩ := itW1_had h
  exact List.mem_map.2 ⟨L[j], List.getElem_mem hj, e⟩
theorem itW1_nokey {L : List It} {n : ByteArray} {i : It} (h : itW1 L n = (i, false)) : ¬ n ∈ L.map It.key := by
  intro m
  obtain ⟨x, hx, e⟩ := List.mem_map.1 m
  obtain ⟨j, hj, rfl⟩ := List.getElem_of_mem hx
  exact itW1_not h j hj e
set_option maxRecDepth 100000 in
set_option maxHeartbeats 4000000 in
theorem fdI_read (v : Value) (LS : List ByteArray) (w : World) (h : RdG encS w v LS) (hf : FitS LS) :
    Calls Try.prog 20 #[v] w (GotRF LS w) := by
  by_cases hL : LS = []
  · subst hL
    obtain ⟨A, c, rfl, hc⟩ := h.nil
    go_enter Try.func20, Try.ntmps20
    go_wp2_with (at_make; refine make_items rfl _ _ rfl 8 rfl rfl (by omega) ?_; intro w2 hown0 hb0)
    refine wp_loop_rounds 1 ?_
    rw [rounds_succ]; go_wp2
    go_ret2
    exact ⟨_, rfl, hown0, hb0⟩
  · obtain ⟨b, o, c, rfl, h1, h2, hb, h4⟩ := h.some hL
    unfold maxLen at h2
    have hcells := Lib.hid (fun k (hk : k < LS.length) => rdS_cell h4 hk)
    clear h4 hL h
    go_enter Try.func20, Try.ntmps20
    go_wp2_with (at_make; refine make_items rfl _ _ rfl 8 rfl rfl (by omega) ?_; intro w2 hown0 hb0)
    have hown0 := Lib.hid hown0
    have hb0 := Lib.hid hb0
    go_loopw [4, 5, 15] (fun x t i wr => ∃ (k bad : Nat) (out : List It) (y : Value), k ≤ LS.length ∧ i = .int .i64 k ∧ y = x ∧ t = .int .i64 bad ∧ bad ≤ k ∧ Hid (fdB out = true) ∧ Hid (rfF [] 0 LS = rfF out bad (LS.drop k)) ∧ Hid (OwnF wr w.heap.size y out) ∧ Hid (Below w.heap.size w wr)) (fun _ _ i _ => LS.length - (intOf i).toNat)
    case atStart => exact ⟨0, 0, [], _, Nat.zero_le _, rfl, rfl, rfl, Nat.le_refl _, Lib.hid fdB_nil, Lib.hid rfl, hown0, hb0⟩
    case round =>
      obtain ⟨k, bad, out, y, hk, rfl, rfl, rfl, hbk, hfo, hrf, hown, hbr⟩ := hrel
      obtain ⟨A, c2, hy⟩ := OwnF.shape hown.out
      subst hy
      have h8 := (fdB_of hfo.out).1
      by_cases hlt : k < LS.length
      · have c0 := hcells.out k hlt
        rw [← hbr.out.cell (p := ⟨b, o + k, none⟩) hb] at c0
        have hm := hf _ (List.getElem_mem hlt)
        have hdr := rfF_drop hlt
        obtain ⟨s, hs⟩ : ∃ s, LS[k] = s := ⟨_, rfl⟩
        rw [hs] at c0 hm hdr
        rw [hdr] at hrf
        clear hs hdr
        have hj0 : (0 : Int) ≤ (k : Int) := by omega
        have hjj : (k : Int) < (LS.length : Int) := by omega
        go_wp2_with fail
        refine (rdI_item s _ hm).mono ?_
        rintro e w3 ⟨L, ok, ky, ti, bo, da, z, hR, hI, rfl, hb3⟩
        have hit := Lib.hid (itL_got hR hI)
        have hown3 := Lib.hid (OwnG.grown hown.out hb3)
        have hB3 := Lib.hid (below_trans' hbr.out hb3)
        clear hR hI hb3 c0
        obtain ⟨w4, hw4⟩ : ∃ w4, w3.alloc (.cells #[.string ky, .string ti, .string bo, .int .i64 da] 28) = w4 := ⟨_, rfl⟩
        have hB4 : Hid (Below w.heap.size w w4) := Lib.hid (by rw [← hw4]; exact hB3.out.alloc hB3.out.size _)
        have hown4 : Hid (OwnF w4 w.heap.size _ _) := Lib.hid (by rw [← hw4]; exact OwnG.grown hown3.out ((Below.refl _ _).alloc (Nat.le_refl _) _))
        obtain ⟨d0, d1, d2, d3⟩ := row4 hw4 (Below.refl _ _)
        have hrw := Lib.hid (fun wX hX => row4 (wX := wX) hw4 hX)
        cases z with
        | false =>
          have HN : Hid (rfF [] 0 LS = rfF out (bad + 1) (LS.drop (k + 1))) := Lib.hid (by rw [hrf.out, rfF_none hit.out])
          go_wp2
          go_roundw
          case rel => exact ⟨k + 1, bad + 1, out, _, by omega, by go_num, rfl, by go_num, by omega, hfo, HN, hown4, hB4⟩
          case measure => simp [intOf]; omega
        | true =>
          have hrd4 := OwnG.rd hown4.out
          obtain ⟨p, hpW⟩ : ∃ p, itW1 out ky = p := ⟨_, rfl⟩
          have hcall := Lib.hid (fwI_any _ _ ky _ hrd4)
          rw [hpW] at hcall
          obtain ⟨⟨x0, x1, x2, x3⟩, had⟩ := p
          go_wp2_with fail
          refine hcall.out.mono ?_
          rintro e w5 ⟨rfl, hb5⟩
          obtain ⟨w6, hw6⟩ : ∃ w6, w5.alloc (.cells #[.string x0, .string x1, .string x2, .int .i64 x3] 28) = w6 := ⟨_, rfl⟩
          have hb6 : Hid (Below w4.heap.size w4 w6) := Lib.hid (by rw [← hw6]; exact hb5.alloc hb5.size _)
          have hown6 := Lib.hid (OwnG.grown hown4.out hb6.out)
          have hB6 := Lib.hid (below_trans' hB4.out hb6.out)
          clear hb5 d0 d1 d2 d3
          obtain ⟨d0, d1, d2, d3⟩ := hrw.out w6 hb6.out
          cases had with
          | true =>
            have HN : Hid (rfF [] 0 LS = rfF out bad (LS.drop (k + 1))) := Lib.hid (by rw [hrf.out, rfF_twice hit.out (itW1_key hpW)])
            go_wp2
            go_roundw
            case rel => exact ⟨k + 1, bad, out, _, by omega, by go_num, rfl, rfl, by omega, hfo, HN, hown6, hB6⟩
            case measure => simp [intOf]; omega
          | false =>
            by_cases hfull : out.length = 8
            · have HN : Hid (rfF [] 0 LS = ([], -1)) := Lib.hid (by rw [hrf.out, rfF_full hit.out (itW1_nokey hpW) (by omega)])
              have t8 : ((out.length : Int) == 8) = true := by rw [hfull]; rfl
              have t8' : ((out.length : Int) = 8) := by omega
              go_wp2
              go_ret2
              exact ⟨.slice none 0 0, by rw [HN.out]; rfl, by rw [HN.out]; exact ownG_nil _ _ _ _ _, hB6.out⟩
            · have HN : Hid (rfF [] 0 LS = rfF (out ++ [⟨ky, ti, bo, da⟩]) bad (LS.drop (k + 1))) := Lib.hid (by rw [hrf.out, rfF_more hit.out (itW1_nokey hpW) (by omega)])
              have hfn := Lib.hid (fdB_more hfo.out (itL_valid hit.out) (itW1_nokey hpW) (by omega))
              have t8 : ((out.length : Int) == 8) = false := by rw [beq_eq_false_iff_ne]; omega
              have t8' : ¬ ((out.length : Int) = 8) := by omega
              have hsz6 := hB6.out.size
              have hll : out.length ≤ 1073741824 := by omega
              go_wp2_with (at_builtin; refine app_item rfl (.tmp 39) (.tmp 41) rfl w.heap.size _ out ky ti bo da rfl hown6.out hsz6 _ rfl rfl hll ?_; intro v7 w7 hown7 hg7; have hB7 := Lib.hid (own_below hown6.out hB6.out hg7); have hown7 := Lib.hid hown7; clear hg7)
              go_roundw
              case rel => exact ⟨k + 1, bad, _, _, by omega, by go_num, rfl, rfl, by omega, hfn, HN, hown7, hB7⟩
              case measure => simp [intOf]; omega
      · have HR : Hid (rfF [] 0 LS = (out, (bad : Int))) := Lib.hid (by rw [hrf.out, List.drop_of_length_le (by omega), rfF_nil])
        go_wp2
        go_ret2
        exact ⟨.slice A out.length c2, by rw [HR.out]; rfl, by rw [HR.out]; exact hown.out, hbr.out⟩
end Go.Proofs.Yteknjaocamlcpaa
