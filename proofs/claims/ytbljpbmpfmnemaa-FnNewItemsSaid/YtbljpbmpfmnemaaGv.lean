/-
  The verifier's own text: FwI FdVI FdWI FdRI.
-/
import Derived.Test.YtbljpbmpfmnemaaRows
import Derived.Test.YtbljpbmpfmnemaaGq
import Derived.Test.YtbljpbmpfmnemaaGn
import Derived.Test.YtbljpbmpfmnemaaGp
import Derived.Test.YtbljpbmpfmnemaaGt
import Derived.WalkKit
import Derived.ProofKit
import Derived.Below
import Derived.Lib.Hide
import Derived.Outline
import Derived.BigQuiet
import Derived.Deep.QuietTactic
import Derived.Deep.Draws
import Derived.Laws.OwnMore
import Derived.Laws.Rows
import Derived.WalkSpells
import Derived.Deep.RegionWith
namespace Go.Proofs.Ytbljpbmpfmnemaa
open Go.RowKit
set_option linter.unusedVariables false
set_option maxRecDepth 100000 in
set_option maxHeartbeats 4000000 in
theorem fwI_any (v : Value) (L : List It) (n : ByteArray) (w : World) (h : RdG encI w v L) :
    Calls Try.prog 45 #[v, .string n] w (GotIW (itW1 L n) w) := by
  obtain ⟨w1, hw1⟩ : ∃ w1, w.alloc (.cells #[.string ⟨#[]⟩, .string ⟨#[]⟩, .string ⟨#[]⟩, .int .i64 0] 30) = w1 := ⟨_, rfl⟩
  have hb01 : Below w.heap.size w w1 := by rw [← hw1]; exact (Below.refl _ _).alloc (Nat.le_refl _) _
  have hrd1 := h.below hb01
  have hfin : ∀ wX, Below w1.heap.size w1 wX → (wX.cell? ⟨w.heap.size, 0, none⟩ = some (.string ⟨#[]⟩) ∧ wX.cell? ⟨w.heap.size, 1, none⟩ = some (.string ⟨#[]⟩) ∧ wX.cell? ⟨w.heap.size, 2, none⟩ = some (.string ⟨#[]⟩) ∧ wX.cell? ⟨w.heap.size, 3, none⟩ = some (.int .i64 0) ∧ (∀ j, wX.frozen? ⟨w.heap.size, j, none⟩ = false) ∧ Below w.heap.size w wX) := fun wX hX => zeroI hw1 hX
  have hfin := Lib.hid hfin
  clear hb01 h
  by_cases hL : L = []
  · subst hL
    obtain ⟨A, c, rfl, hc⟩ := hrd1.nil
    obtain ⟨z0, z1, z2, z3, zf, hbw⟩ := hfin.out w1 (Below.refl _ _)
    have HBw := Lib.hid hbw
    clear hbw
    go_enter Try.func45, Try.ntmps45
    go_wp2
    refine wp_loop_rounds 1 ?_
    rw [rounds_succ]; go_wp2
    refine bodyPost_ret (v := .tuple #[.agg #[.string ⟨#[]⟩, .string ⟨#[]⟩, .string ⟨#[]⟩, .int .i64 0], .bool false]) (by simp [results, Try.results45, go_sem, z0, z1, z2, z3]) rfl ⟨rfl, ?_⟩
    exact (((HBw.out.setCell (Nat.le_refl _) _).setCell (Nat.le_refl _) _).setCell (Nat.le_refl _) _).setCell (Nat.le_refl _) _
  · have hpos : 0 < L.length := List.length_pos_iff.2 hL
    obtain ⟨b, o, c, rfl, h1, h2, hb, h4⟩ := hrd1.some hL
    unfold maxLen at h2
    have hcells := Lib.hid (fun k (hk : k < L.length) => rdI_cells h4 hk)
    clear h4 hL hrd1
    go_enter Try.func45, Try.ntmps45
    go_wp2
    have hw1 := Lib.hid hw1
    go_loopw [10] (fun i wr => ∃ k : Nat, k ≤ L.length ∧ i = .int .i64 k ∧ Hid (∀ i (hi : i < L.length), i < k → L[i].key ≠ n) ∧ Hid (Below w1.heap.size w1 wr)) (fun i _ => L.length - (intOf i).toNat)
    case atStart => exact ⟨0, Nat.zero_le _, rfl, Lib.hid (by intro i hi h; omega), Lib.hid (Below.refl _ _)⟩
    case round =>
      obtain ⟨k, hk, rfl, hp, hbr⟩ := hrel
      by_cases hlt : k < L.length
      · obtain ⟨c0, c1, c2, c3⟩ := rdI_at hcells.out hb hbr.out hlt
        have hat := fun q => itW1_at (n := n) hlt hp.out q
        have hno : L[k].key ≠ n → ∀ i (hi : i < L.length), i < k + 1 → L[i].key ≠ n := fun q i hi hik => by
          by_cases e : i = k
          · subst e; exact q
          · exact hp.out i hi (by omega)
        obtain ⟨e, he⟩ : ∃ e, L[k] = e := ⟨_, rfl⟩
        rw [he] at c0 c1 c2 c3 hat hno
        obtain ⟨ky, ti, bo, da⟩ := e
        simp only at c0 c1 c2 c3 hat hno
        have hj0 : (0 : Int) ≤ (k : Int) := by omega
        have hjj : (k : Int) < (L.length : Int) := by omega
        obtain ⟨w3, hw3⟩ : ∃ w3, wr.alloc (.cells #[.string ky, .string ti, .string bo, .int .i64 da] 30) = w3 := ⟨_, rfl⟩
        have hB3 : Hid (Below w1.heap.size w1 w3) := Lib.hid (by rw [← hw3]; exact hbr.out.alloc hbr.out.size _)
        obtain ⟨d0, d1, d2, d3⟩ := row4 hw3 (Below.refl _ _)
        obtain ⟨z0, z1, z2, z3, zf, hbw⟩ := hfin.out w3 hB3.out
        have HBw := Lib.hid hbw
        clear hbw
        by_cases hn : ky = n
        · have HR := Lib.hid (hat hn)
          have q := str_same hn
          clear hat hno he hn
          go_wp2
          refine bodyPost_ret (v := .tuple #[.agg #[.string ky, .string ti, .string bo, .int .i64 da], .bool true]) (by simp [results, Try.results45, go_sem, z0, z1, z2, z3]) rfl ⟨by rw [HR.out], ?_⟩
          exact (((HBw.out.setCell (Nat.le_refl _) _).setCell (Nat.le_refl _) _).setCell (Nat.le_refl _) _).setCell (Nat.le_refl _) _
        · have HN := Lib.hid (hno hn)
          have q := str_other hn
          clear hat hno he hn
          go_wp2
          go_roundw
          case rel => exact ⟨k + 1, by omega, by go_num, HN, hB3⟩
          case measure => simp [intOf]; omega
      · have HR := Lib.hid (itW1_none (L := L) (n := n) (fun i hi => hp.out i hi (by omega)))
        obtain ⟨z0, z1, z2, z3, zf, hbw⟩ := hfin.out wr hbr.out
        have HBw := Lib.hid hbw
        clear hbw
        go_wp2
        refine bodyPost_ret (v := .tuple #[.agg #[.string ⟨#[]⟩, .string ⟨#[]⟩, .string ⟨#[]⟩, .int .i64 0], .bool false]) (by simp [results, Try.results45, go_sem, z0, z1, z2, z3]) rfl ⟨by rw [HR.out]; rfl, ?_⟩
        exact (((HBw.out.setCell (Nat.le_refl _) _).setCell (Nat.le_refl _) _).setCell (Nat.le_refl _) _).setCell (Nat.le_refl _) _
theorem itW1_had {L : List It} {n : ByteArray} {i : It} (h : itW1 L n = (i, true)) : ∃ j, ∃ hj : j < L.length, L[j].key = n := by
  by_cases q : ∃ j, ∃ hj : j < L.length, L[j].key = n
  · exact q
  · rw [itW1_none (fun j hj e => q ⟨j, hj, e⟩)] at h; cases h
theorem itW1_not {L : List It} {n : ByteArray} {i : It} (h : itW1 L n = (i, false)) : ∀ j (hj : j < L.length), L[j].key ≠ n := by
  induction L with
  | nil => intro j hj; simp at hj
  | cons a L ih =>
    unfold itW1 at h
    split at h
    · cases h
    · rename_i q
      intro j hj
      cases j with
      | zero => exact q
      | succ j => exact ih h j (by simpa using hj)
theorem fdB_big {L : List It} (h : 8 < L.length) : fdB L = false := by
  rcases q : fdB L with _ | _
  · rfl
  · have := (fdB_of q).1; omega
theorem backZ {w3 w4 : World} (h : Below (w3.alloc (.cells #[.string ⟨#[]⟩, .string ⟨#[]⟩, .string ⟨#[]⟩, .int .i64 0] 30)).drew.heap.size (w3.alloc (.cells #[.string ⟨#[]⟩, .string ⟨#[]⟩, .string ⟨#[]⟩, .int .i64 0] 30)).drew w4) :
    Below w3.heap.size w3 w4 ∧ w4.cell? ⟨w3.heap.size, 0, none⟩ = some (.string ⟨#[]⟩) ∧ w4.cell? ⟨w3.heap.size, 1, none⟩ = some (.string ⟨#[]⟩) ∧ w4.cell? ⟨w3.heap.size, 2, none⟩ = some (.string ⟨#[]⟩) ∧ w4.cell? ⟨w3.heap.size, 3, none⟩ = some (.int .i64 0) ∧ (∀ j, w4.frozen? ⟨w3.heap.size, j, none⟩ = false) := by
  have h' : Below (w3.alloc (.cells #[.string ⟨#[]⟩, .string ⟨#[]⟩, .string ⟨#[]⟩, .int .i64 0] 30)).heap.size (w3.alloc (.cells #[.string ⟨#[]⟩, .string ⟨#[]⟩, .string ⟨#[]⟩, .int .i64 0] 30)) w4 := Below.trans (Below.drew (Below.refl _ _)) h
  obtain ⟨a, b, c, d, e, f⟩ := zeroI rfl h'
  exact ⟨f, a, b, c, d, e⟩
set_option maxRecDepth 100000 in
set_option maxHeartbeats 4000000 in
theorem fdI_valid (v : Value) (L : List It) (w : World) (h : RdG encI w v L) (hf : FitF L) :
    Calls Try.prog 16 #[v] w (GotB (fdB L) w) := by
  by_cases h8 : 8 < L.length
  · have hL : L ≠ [] := by intro e; rw [e] at h8; simp at h8
    obtain ⟨b, o, c, rfl, h1, h2, hb, h4⟩ := h.some hL
    unfold maxLen at h2
    have HR := Lib.hid (fdB_big h8)
    clear h4 hL
    go_enter Try.func16, Try.ntmps16
    go_wp2
    go_ret
    exact ⟨ret_bool HR.out.symm, Below.refl _ _⟩
  by_cases hL : L = []
  · subst hL
    obtain ⟨A, c, rfl, hc⟩ := h.nil
    go_enter Try.func16, Try.ntmps16
    go_wp2
    refine wp_loop_rounds 1 ?_
    rw [rounds_succ]; go_wp2
    go_ret
    exact ⟨rfl, Below.refl _ _⟩
  · have hrd := h
    obtain ⟨b, o, c, rfl, h1, h2, hb, h4⟩ := h.some hL
    have h2' := Lib.hid h2
    unfold maxLen at h2
    have hcells := Lib.hid (fun k (hk : k < L.length) => rdI_cells h4 hk)
    have hrd := Lib.hid hrd
    clear h4 hL h
    go_enter Try.func16, Try.ntmps16
    go_wp2
    go_loopw [12] (fun i wr => ∃ k : Nat, k ≤ L.length ∧ i = .int .i64 k ∧ Hid (PreF L k) ∧ Hid (Below w.heap.size w wr)) (fun i _ => L.length - (intOf i).toNat)
    case atStart => exact ⟨0, Nat.zero_le _, rfl, Lib.hid (preF_zero L), Lib.hid (Below.refl _ _)⟩
    case round =>
      obtain ⟨k, hk, rfl, hp, hbr⟩ := hrel
      by_cases hlt : k < L.length
      · obtain ⟨c0, c1, c2, c3⟩ := rdI_at hcells.out hb hbr.out hlt
        have hfi := hf _ (List.getElem_mem hlt)
        have hbad := fun q => fdB_item (L := L) hlt q
        have hnext := fun q d => preF_next (L := L) hlt hp.out q d
        have htw := fun j hj e => fdB_twice (L := L) (j := j) hj hlt e
        obtain ⟨e, he⟩ : ∃ e, L[k] = e := ⟨_, rfl⟩
        rw [he] at c0 c1 c2 c3 hfi hbad hnext htw
        obtain ⟨ky, ti, bo, da⟩ := e
        simp only at c0 c1 c2 c3 hnext htw
        have hjj : (k : Int) < (L.length : Int) := by omega
        have hkk0 : (0 : Int) ≤ (k : Int) := by omega
        have hkc : k ≤ c := by omega
        have hkc' : (k : Int) ≤ (c : Int) := by omega
        obtain ⟨w3, hw3⟩ : ∃ w3, wr.alloc (.cells #[.string ky, .string ti, .string bo, .int .i64 da] 30) = w3 := ⟨_, rfl⟩
        have hB3 : Hid (Below w.heap.size w w3) := Lib.hid (by rw [← hw3]; exact hbr.out.alloc hbr.out.size _)
        obtain ⟨d0, d1, d2, d3⟩ := row4 hw3 (Below.refl _ _)
        have hrw := Lib.hid (fun wX hX => row4 (wX := wX) hw3 hX)
        have hlt3 : wr.heap.size < w3.heap.size := by rw [← hw3]; simp
        have hne3 : ¬ (wr.heap.size = w3.heap.size) := by omega
        obtain ⟨p, hpW⟩ : ∃ p, itW1 (L.take k) ky = p := ⟨_, rfl⟩
        have hcall : Hid (∀ wz, Below w3.heap.size w3 wz → Calls Try.prog 45 #[.slice (some ⟨b, o, none⟩) k c, .string ky] wz (GotIW p wz)) := Lib.hid (fun wz hz => by
          rw [← hpW]
          exact fwI_any _ _ _ _ (rdG_take encI_len ((hrd.out.below hB3.out).below hz) k hk c hkc h2'.out))
        obtain ⟨⟨x0, x1, x2, x3⟩, had⟩ := p
        go_wp2
        go_region_with (first
          | (go_at_call 45; refine (hcall.out _ (Below.drew (Below.refl _ _))).mono ?_; rintro e w4 ⟨rfl, hb4⟩; have hB4 : Hid (Below w3.heap.size w3 w4) := Lib.hid (Below.trans (Below.drew (Below.refl _ _)) hb4); clear hb4)
          | (go_at_call 45; refine (hcall.out _ (Below.drew ((Below.refl _ _).alloc (Nat.le_refl _) _))).mono ?_; rintro e w4 ⟨rfl, hb4⟩; obtain ⟨hB4, y0, y1, y2, y3, yf⟩ := backZ hb4; have hB4 := Lib.hid hB4; clear hb4))
        all_goals
          first
            | (clear y0 y1 y2 y3 yf
               have hB5 : Hid (Below w3.heap.size w3 ((((w4.setCell ⟨w3.heap.size, 0, none⟩ (.string x0)).setCell ⟨w3.heap.size, 1, none⟩ (.string x1)).setCell ⟨w3.heap.size, 2, none⟩ (.string x2)).setCell ⟨w3.heap.size, 3, none⟩ (.int .i64 x3))) := Lib.hid ((((hB4.out.setCell (Nat.le_refl _) _).setCell (Nat.le_refl _) _).setCell (Nat.le_refl _) _).setCell (Nat.le_refl _) _)
               generalize (((w4.setCell ⟨w3.heap.size, 0, none⟩ (.string x0)).setCell ⟨w3.heap.size, 1, none⟩ (.string x1)).setCell ⟨w3.heap.size, 2, none⟩ (.string x2)).setCell ⟨w3.heap.size, 3, none⟩ (.int .i64 x3) = w5 at hB5 ⊢)
            | (have hB5 : Hid (Below w3.heap.size w3 (w4.alloc (.cells #[.string x0, .string x1, .string x2, .int .i64 x3] 30))) := Lib.hid (hB4.out.alloc hB4.out.size _)
               generalize w4.alloc (.cells #[.string x0, .string x1, .string x2, .int .i64 x3] 30) = w5 at hB5 ⊢)
          clear d0 d1 d2 d3 hB4 c0 c1 c2 c3
          obtain ⟨d0, d1, d2, d3⟩ := hrw.out w5 hB5.out
          have hB6 := Lib.hid (below_trans' hB3.out hB5.out)
          rcases had with _ | _
          · have hnot := Lib.hid (itW1_not hpW)
            have hd : ∀ j (hj : j < k), (L[j]'(by omega)).key ≠ ky := fun j hj => by have := hnot.out j (by rw [List.length_take]; omega); rwa [List.getElem_take] at this
            go_wp2_with fail
            refine (itI_valid ky ti bo da _ hfi).mono ?_
            rintro e w6 ⟨rfl, hb6⟩
            have hB7 := Lib.hid (below_trans' hB6.out hb6)
            clear hb6
            rcases hi : itB ⟨ky, ti, bo, da⟩ with _ | _
            · have HR := Lib.hid (hbad hi)
              go_wp2
              go_ret
              exact ⟨ret_bool HR.out.symm, hB7.out⟩
            · have HN := Lib.hid (hnext hi hd)
              go_wp2
              go_roundw
              case rel => exact ⟨k + 1, by omega, by go_num, HN, hB7⟩
              case measure => simp [intOf]; omega
          · obtain ⟨j, hj, hjk⟩ := itW1_had hpW
            rw [List.length_take] at hj
            rw [List.getElem_take] at hjk
            have HR := Lib.hid (htw j (by omega) hjk)
            go_wp2
            go_ret
            exact ⟨ret_bool HR.out.symm, hB6.out⟩
      · have hr := Lib.hid (preF_end (by omega) hp.out)
        have h8' : decide ((L.length : Int) ≤ 8) = true := decide_eq_true (by omega)
        go_wp2
        go_ret
        exact ⟨ret_bool (by rw [← hr.out, h8']), hbr.out⟩
set_option maxRecDepth 100000 in
set_option maxHeartbeats 4000000 in
theorem fdI_with (v : Value) (L : List It) (n : ByteArray) (w : World) (h : RdG encI w v L) (hf : FitF L) :
    Calls Try.prog 21 #[v, .string n] w (GotIW (itW L n) w) := by
  obtain ⟨w1, hw1⟩ : ∃ w1, w.alloc (.cells #[.string ⟨#[]⟩, .string ⟨#[]⟩, .string ⟨#[]⟩, .int .i64 0] 30) = w1 := ⟨_, rfl⟩
  have hb01 : Below w.heap.size w w1 := by rw [← hw1]; exact (Below.refl _ _).alloc (Nat.le_refl _) _
  have hrd1 := h.below hb01
  have hfin : ∀ wX, Below w1.heap.size w1 wX → (wX.cell? ⟨w.heap.size, 0, none⟩ = some (.string ⟨#[]⟩) ∧ wX.cell? ⟨w.heap.size, 1, none⟩ = some (.string ⟨#[]⟩) ∧ wX.cell? ⟨w.heap.size, 2, none⟩ = some (.string ⟨#[]⟩) ∧ wX.cell? ⟨w.heap.size, 3, none⟩ = some (.int .i64 0) ∧ (∀ j, wX.frozen? ⟨w.heap.size, j, none⟩ = false) ∧ Below w.heap.size w wX) := fun wX hX => zeroI hw1 hX
  have hfin := Lib.hid hfin
  clear hb01 h
  go_enter Try.func21, Try.ntmps21
  go_wp2_with fail
  have hw1 := Lib.hid hw1
  refine (fdI_valid v L _ hrd1 hf).mono ?_
  rintro e w3 ⟨rfl, hb3⟩
  have hrd3 := hrd1.below hb3
  have hB3 := Lib.hid hb3
  clear hb3
  rcases hF : fdB L with _ | _
  · have HR := Lib.hid (itW_out n hF)
    obtain ⟨z0, z1, z2, z3, zf, hbw⟩ := hfin.out w3 hB3.out
    have HBw := Lib.hid hbw
    clear hbw
    go_wp2
    refine bodyPost_ret (v := .tuple #[.agg #[.string ⟨#[]⟩, .string ⟨#[]⟩, .string ⟨#[]⟩, .int .i64 0], .bool false]) (by simp [results, Try.results21, go_sem, z0, z1, z2, z3]) rfl ⟨by rw [HR.out]; rfl, ?_⟩
    exact (((HBw.out.setCell (Nat.le_refl _) _).setCell (Nat.le_refl _) _).setCell (Nat.le_refl _) _).setCell (Nat.le_refl _) _
  · have HX := Lib.hid (itW_in n hF)
    go_wp2_with fail
    refine (fwI_any v L n _ hrd3).mono ?_
    rintro e w4 ⟨rfl, hb4⟩
    have hB4 := Lib.hid (below_trans' hB3.out hb4)
    obtain ⟨z0, z1, z2, z3, zf, hbw⟩ := hfin.out w4 hB4.out
    have HBw := Lib.hid hbw
    clear hbw hb4
    obtain ⟨p, hp⟩ : ∃ p, itW1 L n = p := ⟨_, rfl⟩
    rw [hp] at HX ⊢
    obtain ⟨⟨x0, x1, x2, x3⟩, had⟩ := p
    go_wp2
    refine bodyPost_ret (v := .tuple #[.agg #[.string x0, .string x1, .string x2, .int .i64 x3], .bool had]) (by simp [results, Try.results21, go_sem, z0, z1, z2, z3]) rfl ⟨by rw [HX.out], ?_⟩
    exact (((HBw.out.setCell (Nat.le_refl _) _).setCell (Nat.le_refl _) _).setCell (Nat.le_refl _) _).setCell (Nat.le_refl _) _
theorem itW1_key {L : List It} {n : ByteArray} {i : It} (h : itW1 L n = (i, true)) : n ∈ L.map It.key := by
  obtain ⟨j, hj, e⟩ := itW1_had h
  exact List.mem_map.2 ⟨L[j], List.getElem_mem hj, e⟩
theorem itW1_nokey {L : List It} {n : ByteArray} {i : It} (h : itW1 L n = (i, false)) : ¬ n ∈ L.map It.key := by
  intro m
  obtain ⟨x, hx, e⟩ := List.mem_map.1 m
  obtain ⟨j, hj, rfl⟩ := List.getElem_of_mem hx
  exact itW1_not h j hj e
end Go.Proofs.Ytbljpbmpfmnemaa
