/-
  The verifier's own text: FlS1 FlS2 FlS3 FlS4.
-/
import Derived.Test.YtchknjhfodofcaaRows
import Derived.Test.YtchknjhfodofcaaHJ
import Derived.Test.YtchknjhfodofcaaHC
import Derived.Laws.Cover1
import Derived.Deep.DeepCutAuto
import Derived.Deep.RegionLaw
import Derived.Test.YtchknjhfodofcaaMarkS
import Derived.Test.YtchknjhfodofcaaGa
import Derived.Test.YtchknjhfodofcaaReadMarkS
import Derived.Test.YtchknjhfodofcaaGi
import Derived.WalkKit
import Derived.ProofKit
import Derived.Below
import Derived.Lib.Hide
import Derived.Outline
import Derived.BigQuiet
import Derived.Deep.QuietTactic
import Derived.Deep.Draws
import Derived.Laws.OwnMore
import Derived.Laws.Rows
import Derived.WalkSpells
import Derived.Deep.RegionWith
namespace Go.Proofs.Ytchknjhfodofcaa
open Go.RowKit
set_option linter.unusedVariables false
set_option maxRecDepth 100000 in
set_option maxHeartbeats 4000000 in
theorem flS_valid (v : Value) (L : List Fd) (w : World) (h : RdG encFd w v L) (hf : FitFds L) :
    Calls Try.prog 13 #[v] w (GotB (flsB L) w) := by
  by_cases hL : L = []
  · subst hL
    obtain ⟨A, c, rfl, hc⟩ := h.nil
    go_enter Try.func13, Try.ntmps13
    go_wp2
    refine wp_loop_rounds 1 ?_
    rw [rounds_succ]; go_wp2
    go_ret
    exact ⟨rfl, Below.refl _ _⟩
  · obtain ⟨b, o, c, rfl, h1, h2, hb, h4⟩ := h.some hL
    unfold maxLen at h2
    have hcells := Lib.hid (fun k (hk : k < L.length) => rdFd_cells h4 hk)
    clear h4 hL
    go_enter Try.func13, Try.ntmps13
    go_wp2
    go_loopw [3, 4] (fun i jj wr => ∃ k : Nat, k ≤ L.length ∧ i = .int .i64 k ∧ Hid (PreD L k) ∧ Hid (Below w.heap.size w wr)) (fun i _ _ => L.length - (intOf i).toNat)
    case atStart => exact ⟨0, Nat.zero_le _, rfl, Lib.hid (preD_zero L), Lib.hid (Below.refl _ _)⟩
    case round =>
      obtain ⟨k, hk, rfl, hp, hbr⟩ := hrel
      by_cases hlt : k < L.length
      · obtain ⟨c0, c1⟩ := rdFd_at hcells.out hb hbr.out hlt
        have hfi := hf _ (List.getElem_mem hlt)
        have hbad := fun q => flsB_item (L := L) hlt q
        have hnext := fun q d => preD_next (L := L) hlt hp.out q d
        have htw := fun j hj e => flsB_name (L := L) (j := j) hj hlt e
        obtain ⟨e, he⟩ : ∃ e, L[k] = e := ⟨_, rfl⟩
        rw [he] at c0 c1 hfi hbad hnext htw
        obtain ⟨name, val⟩ := e
        simp only at c0 c1 htw hnext
        have m0 := fit_max hfi
        simp only at m0
        have hjj : (k : Int) < (L.length : Int) := by omega
        have hkk0 : (0 : Int) ≤ (k : Int) := by omega
        have HX := Lib.hid hnext
        have HT := Lib.hid htw
        have hbad := Lib.hid hbad
        have he := Lib.hid he
        clear hnext htw
        rcases hi0 : wordB name.data.toList with _ | _
        · have HR := Lib.hid (hbad.out (flB_word hi0))
          have H0 := Lib.hid hi0
          clear hi0
          go_wp2_with (go_at_call 35; refine (sword_any name _ m0).mono ?_; rintro e w' ⟨rfl, rfl⟩; rw [H0.out])
          go_ret
          exact ⟨ret_bool HR.out.symm, hbr.out⟩
        · have H0 := Lib.hid hi0
          rcases hi1 : inB val 0 1000000000 with _ | _
          · have HR := Lib.hid (hbad.out (flB_val hi1))
            have H1 := Lib.hid hi1
            clear hi0 hi1
            go_wp2_with (first | (go_at_call 35; refine (sword_any name _ m0).mono ?_; rintro e w' ⟨rfl, rfl⟩; rw [H0.out]) | (go_at_call 36; refine (l1In_any val 0 1000000000 _).mono ?_; rintro e w' ⟨rfl, rfl⟩; rw [H1.out]))
            go_ret
            exact ⟨ret_bool HR.out.symm, hbr.out⟩
          · have HG := Lib.hid (flB_all (a := ⟨name, val⟩) hi0 hi1)
            have H1 := Lib.hid hi1
            clear hi0 hi1
            go_wp2_with (first | (go_at_call 35; refine (sword_any name _ m0).mono ?_; rintro e w' ⟨rfl, rfl⟩; rw [H0.out]) | (go_at_call 36; refine (l1In_any val 0 1000000000 _).mono ?_; rintro e w' ⟨rfl, rfl⟩; rw [H1.out]))
            go_loopw [4] (fun jj wx => ∃ j : Nat, j ≤ k ∧ jj = .int .i64 j ∧ Hid (∀ i (hi : i < j) (hl : i < L.length), L[i].name ≠ name) ∧ Hid (Below wr.heap.size wr wx)) (fun jj _ => k - (intOf jj).toNat)
            case atStart => exact ⟨0, Nat.zero_le _, rfl, Lib.hid (by intro i hi; omega), Lib.hid (Below.refl _ _)⟩
            case round =>
              obtain ⟨j, hj, rfl, hq, hbi⟩ := hrel
              have hBi := Lib.hid (below_trans' hbr.out hbi.out)
              by_cases hjk : j < k
              · have hjl : j < L.length := by omega
                obtain ⟨d0, d1⟩ := rdFd_at hcells.out hb hBi.out hjl
                obtain ⟨y0, y1⟩ := rdFd_at hcells.out hb hBi.out hlt
                rw [he.out] at y0 y1
                simp only at y0 y1
                have hT2 := HT.out j hjk
                have hq2 : L[j].name ≠ name → ∀ i (hi : i < j + 1) (hl : i < L.length), L[i].name ≠ name := fun q i hi hl => by
                  by_cases e : i = j
                  · subst e; exact q
                  · exact hq.out i (by omega) hl
                obtain ⟨x, hx⟩ : ∃ x, L[j] = x := ⟨_, rfl⟩
                obtain ⟨xn, xv⟩ := x
                rw [hx] at d0 d1 hT2 hq2
                simp only at d0 d1 hT2 hq2
                have j0 : (0 : Int) ≤ (j : Int) := by omega
                have j1 : (j : Int) < (L.length : Int) := by omega
                have j2 : (j : Int) < (k : Int) := by omega
                clear hx c0 c1
                by_cases hn : xn = name
                · have HR := Lib.hid (hT2 hn)
                  have q := str_same hn
                  clear hn hT2 hq2
                  go_wp2_with fail
                  go_quiet (fail)
                  go_wp2
                  go_ret
                  exact ⟨ret_bool HR.out.symm, Below.drawn hBi.out _⟩
                · have HN := Lib.hid (hq2 hn)
                  have q := str_other hn
                  clear hn hT2 hq2
                  go_wp2_with fail
                  go_quiet (fail)
                  go_wp2
                  go_roundw
                  case rel => exact ⟨j + 1, by omega, by go_num, HN, Lib.hid (Below.drawn hbi.out _)⟩
                  case measure => simp [intOf]; omega
              · have hd : Hid (PreD L (k + 1)) := Lib.hid (HX.out HG.out (fun i hi => hq.out i (by omega) (by omega)))
                go_wp2
                go_roundw
                case rel => exact ⟨k + 1, by omega, by go_num, hd, hBi⟩
                case measure => simp [intOf]; omega
      · have HR := Lib.hid (preD_end (L := L) (k := k) (by omega) hp.out)
        go_wp2
        go_ret
        exact ⟨ret_bool HR.out, hbr.out⟩
theorem flL_less {a b : Fd} {q : Bool} (h : flL a b = q) : Op.bytesLess a.name.toList b.name.toList = q := by
  rw [ByteArray.toList_eq, ByteArray.toList_eq]; exact h
set_option maxRecDepth 100000 in
set_option maxHeartbeats 16000000 in
theorem flS_sort (v : Value) (L : List Fd) (w : World) (h : RdG encFd w v L) (hf : FitFds L) :
    Calls Try.prog 18 #[v] w (GotOwnFd (soF L) w) := by
  have hown0 := Lib.hid (ownFd_none w w.heap.size (Nat.le_refl _))
  have hb0 := Lib.hid ((Below.refl w.heap.size w).alloc (Nat.le_refl _) (.cells #[] 28))
  have hrd := Lib.hid h
  have hlen := Lib.hid (show ∃ A c, v = .slice A L.length c ∧ L.length ≤ c ∧ c ≤ maxLen from by obtain ⟨A, c, hv, q1, q2, _⟩ := h; exact ⟨A, c, hv, q1, q2⟩)
  obtain ⟨A0, c0, rfl, hc0, hcm0⟩ := hlen.out
  unfold maxLen at hcm0
  clear h hlen
  go_enter Try.func18, Try.ntmps18
  go_wp2
  go_loopw [3, 4, 5] (fun y i at' wr => ∃ (k g cap : Nat) (M : List Fd), k ≤ L.length ∧ i = .int .i64 k ∧ y = .slice (some ⟨g, 0, none⟩) k cap ∧ Hid (M = srG flL (L.take k)) ∧ Hid (k = 0 ∨ flsB L = true) ∧ Hid (OwnFd wr w.heap.size (.slice (some ⟨g, 0, none⟩) k cap) M) ∧ Hid (Below w.heap.size w wr)) (fun _ i _ _ => L.length - (intOf i).toNat)
  case atStart => exact ⟨0, w.heap.size, 0, [], Nat.zero_le _, rfl, rfl, Lib.hid rfl, Lib.hid (.inl rfl), hown0, hb0⟩
  case round =>
    obtain ⟨k, g, cap, M, hk, rfl, rfl, hM, hor, hown, hbr⟩ := hrel
    by_cases hlt : k < L.length
    · have hjj : (k : Int) < (L.length : Int) := by omega
      have hkk0 : (0 : Int) ≤ (k : Int) := by omega
      go_wp2_with fail
      refine (flS_valid _ L _ (hrd.out.below hbr.out) hf).mono ?_
      rintro e w3 ⟨rfl, hb3⟩
      have hB3 := Lib.hid (below_trans' hbr.out hb3)
      have hown3 := Lib.hid (OwnG.grown hown.out hb3)
      clear hb3
      rcases hF : flsB L with _ | _
      · have hk0 : k = 0 := by
          rcases hor.out with q | q
          · exact q
          · rw [hF] at q; cases q
        subst hk0
        have HR : Hid (M = soF L) := Lib.hid (by rw [soF_out hF, hM.out]; rfl)
        clear hF
        go_wp2
        go_ret
        exact ⟨_, rfl, by rw [← HR.out]; exact hown3.out, hB3.out⟩
      · have HF := Lib.hid hF
        obtain ⟨b, o, c, hv, _, _, hb, h4⟩ := hrd.out.some (by intro e; rw [e] at hlt; simp at hlt)
        obtain ⟨rfl, rfl⟩ : A0 = some ⟨b, o, none⟩ ∧ c0 = c := by simpa using hv
        have hcells := Lib.hid (fun k (hk : k < L.length) => rdFd_cells h4 hk)
        have hx := Lib.hid (srG_next flL hlt)
        have hcmp := cmp_take (fl_cmp hF) hlt
        have hasc : ascB flL M = true := by rw [hM.out]; exact srG_asc flL_ord (fl_cmp hF) k (by omega)
        have hcM : ∀ y ∈ M, flL y L[k] = true ∨ flL L[k] y = true := fun y m => hcmp y (srG_mem.1 (by rw [hM.out] at m; exact m))
        have hMl : M.length = k := by rw [hM.out, srG_len, List.length_take]; omega
        have hk6 : k ≤ 6 := by have := (flsB_of hF).1; omega
        have hrow := Lib.hid (fun wX (hX : Below w.heap.size w wX) => rdFd_at hcells.out hb hX hlt)
        obtain ⟨e, he⟩ : ∃ e, L[k] = e := ⟨_, rfl⟩
        rw [he] at hrow hx hcM
        obtain ⟨name, val⟩ := e
        simp only at hrow
        replace hcM := Lib.hid hcM
        replace hasc := Lib.hid hasc
        replace hMl := Lib.hid hMl
        clear hF h4 hv hcmp he
        go_wp2
        go_loopw [5] (fun a wx => ∃ p : Nat, p ≤ k ∧ a = .int .i64 p ∧ Hid (∀ i (hi : i < M.length), p ≤ i → flL ⟨name, val⟩ M[i] = true) ∧ Hid (Below w3.heap.size w3 wx)) (fun a _ => (intOf a).toNat)
        case atStart => exact ⟨k, Nat.le_refl _, rfl, Lib.hid (by intro i hi hp; have := hMl.out; omega), Lib.hid (Below.refl _ _)⟩
        case round =>
          obtain ⟨p, hp, rfl, hgt, hbi⟩ := hrel
          have hBi := Lib.hid (below_trans' hB3.out hbi.out)
          obtain ⟨x0, x1⟩ := hrow.out _ hBi.out
          go_upto_region 6 with fail
          go_cut [34] (fun s wx => ∃ q : Bool, s = .bool q ∧ Hid (q = true → 0 < p ∧ ∀ i (hi : i < M.length), p ≤ i + 1 → flL ⟨name, val⟩ M[i] = true) ∧ Hid (q = false → plc flL M ⟨name, val⟩ = p) ∧ Hid (Below w3.heap.size w3 wx))
          case first =>
            rcases p with _ | q
            · have HP : Hid (plc flL M ⟨name, val⟩ = 0) := Lib.hid (plc_back flL_ord hasc.out (Nat.zero_le _) (fun i hi _ => hgt.out i hi (Nat.zero_le _)) (fun h0 => absurd h0 (by omega)) hcM.out)
              go_quiet (fail)
              go_wp2
              go_meet
              exact ⟨false, rfl, Lib.hid (by intro q; cases q), Lib.hid (fun _ => HP.out), Lib.hid (Below.drawn hbi.out _)⟩
            · have hql : q < M.length := by have := hMl.out; omega
              have hcs := fun j hj => OwnG.cellAt encFd_len (OwnG.grown hown3.out hbi.out) q hql j hj (q * 2 + j) rfl
              obtain ⟨d0, _, _⟩ := OwnG.cellAt encFd_len (OwnG.grown hown3.out hbi.out) q hql 0 (by omega) (q * 2) rfl
              have hT : flL ⟨name, val⟩ M[q] = true → 0 < q + 1 ∧ ∀ i (hi : i < M.length), q + 1 ≤ i + 1 → flL ⟨name, val⟩ M[i] = true := fun z => ⟨by omega, fun i hi hiq => by
                by_cases e : i = q
                · subst e; exact z
                · exact hgt.out i hi (by omega)⟩
              have hFa : flL ⟨name, val⟩ M[q] = false → plc flL M ⟨name, val⟩ = q + 1 := fun z => plc_back flL_ord hasc.out (by omega) (fun i hi hpi => hgt.out i hi hpi) (fun _ => by simpa using z) hcM.out
              obtain ⟨e, he⟩ : ∃ e, M[q] = e := ⟨_, rfl⟩
              rw [he] at d0 hT hFa
              obtain ⟨yn, yv⟩ := e
              change _ = some (Value.string yn) at d0
              have hT := Lib.hid hT
              have hFa := Lib.hid hFa
              have g0 : decide (0 < q + 1) = true := by simp
              have iw := IntWalk.i64_in (q : Int) (by omega)
              have g1 : (q : Int) < (k : Int) := by omega
              have g2 : (0 : Int) ≤ (q : Int) := by omega
              clear he hcs
              rcases hle : flL ⟨name, val⟩ ⟨yn, yv⟩ with _ | _
              · have HR := Lib.hid (hFa.out hle)
                have hle := flL_less hle
                simp only at hle
                go_quiet (fail)
                go_wp2
                go_meet
                exact ⟨false, rfl, Lib.hid (by intro q; cases q), Lib.hid (fun _ => HR.out), Lib.hid (Below.drawn hbi.out _)⟩
              · have HR := Lib.hid (hT.out hle)
                have hle := flL_less hle
                simp only at hle
                go_quiet (fail)
                go_wp2
                go_meet
                exact ⟨true, rfl, Lib.hid (fun _ => HR.out), Lib.hid (by intro q; cases q), Lib.hid (Below.drawn hbi.out _)⟩
          case rest =>
            obtain ⟨q, rfl, hT, hFa, hBc⟩ := hcut
            cases q with
            | true =>
              obtain ⟨hp0, hT⟩ := hT.out rfl
              obtain ⟨p', rfl⟩ : ∃ p', p = p' + 1 := ⟨p - 1, by omega⟩
              have hT := Lib.hid hT
              have iw := IntWalk.i64_in (p' : Int) (by omega)
              go_wp2
              go_roundw
              case rel => exact ⟨p', by omega, by go_num, Lib.hid (fun i hi hpi => hT.out i hi (by omega)), hBc⟩
              case measure => (simp [intOf] <;> omega)
            | false =>
              have HP : Hid (plc flL M ⟨name, val⟩ = p) := Lib.hid (hFa.out (by trivial))
              clear hT hFa x0 x1
              obtain ⟨wq, hwq⟩ : ∃ wq, wq = wc := ⟨_, rfl⟩
              rw [← hwq] at hBc ⊢
              clear hwq
              have hBq := Lib.hid (below_trans' hB3.out hBc.out)
              have hrdq : Hid (RdG encFd wq (.slice (some ⟨g, 0, none⟩) M.length cap) M) := Lib.hid (by have := OwnG.rd (OwnG.grown hown3.out hBc.out); rw [hMl.out]; exact this)
              rw [hMl.out] at hrdq
              obtain ⟨y0, y1⟩ := hrow.out wq hBq.out
              have hpl : p ≤ M.length := by have := hMl.out; omega
              have hcapm : Hid (cap ≤ maxLen) := Lib.hid (by obtain ⟨_, _, hv, _, q2, _⟩ := hrdq.out; injection hv with _ _ h3; rw [h3]; exact q2)
              have hkcap : k ≤ cap := by obtain ⟨_, _, hv, q1, q2, _⟩ := hrdq.out; injection hv with _ h2 h3; rw [h2, h3]; exact q1
              have hkc : p ≤ cap := by omega
              have hll0 : ([] : List Fd).length + (M.take p).length ≤ 1073741824 := by rw [List.length_take]; have := hMl.out; simp; omega
              have hll1 : (M.take p).length + [(⟨name, val⟩ : Fd)].length ≤ 1073741824 := by rw [List.length_take]; have := hMl.out; simp; omega
              have hll2 : (M.take p ++ [(⟨name, val⟩ : Fd)]).length + (M.drop p).length ≤ 1073741824 := by have := hMl.out; simp; omega
              have hpc : (p : Int) ≤ (cap : Int) := by omega
              have hpk : (p : Int) ≤ (k : Int) := by omega
              have hp0 : (0 : Int) ≤ (p : Int) := by omega
              have hcm := hcapm.out
              unfold maxLen at hcm
              have hrdq2 : Hid (RdG encFd wq (.slice (some ⟨g, 0, none⟩) M.length cap) M) := Lib.hid (by rw [hMl.out]; exact hrdq.out)
              have hwbn : b < wq.heap.size := Nat.lt_of_lt_of_le hb hBq.out.size
              have hbn1 : ¬ (b = wq.heap.size) := by omega
              have hbn2 : ¬ (b = wq.heap.size + 1) := by omega
              go_upto_region 8 with fail
              by_cases hck : cap = p
              · obtain rfl : p = k := by omega
                subst hck
                go_region_law (first
                  | (refine stepFd rfl (.tmp 37) (.tmp 40) rfl wq.heap.size _ _ [] (M.take cap) rfl (by first | exact own0_a wq _ (Nat.le_refl _) | exact own0_b wq _ (Nat.le_refl _) _ | exact own0_c wq _ (Nat.le_refl _) _) (by simp <;> omega) rfl (by first | exact (rdG_take encFd_len hrdq.out cap hpl cap hkc hcapm.out).below (belN_1 wq _) | exact (rdG_take encFd_len hrdq.out cap hpl cap hkc hcapm.out).below (belN_2 wq _ _)) hll0 ?_; intro v7 w7 hown7 hg7; rw [List.nil_append] at hown7; (first | (have hg7 : World.grownBy _ w7 (some wq.heap.size) := hg7) | (have hg7 : World.grownBy _ w7 (some (wq.heap.size + 1)) := hg7)); have hB7 : Hid (Below wq.heap.size wq w7) := Lib.hid (by first | exact (belN_1 wq _).grown hg7 (by simp) (fun q hq => by cases hq; omega) | exact (belN_2 wq _ _).grown hg7 (by simp <;> omega) (fun q hq => by cases hq; omega)); obtain ⟨e0, e1⟩ := hrow.out w7 (below_trans' hBq.out hB7.out); (first | (have hL7 := rdG_kept (lit1_b encFd_len wq _ (⟨name, val⟩ : Fd) #[.string name, .int .i64 val] rfl 28) hg7 (by omega)) | (have hL7 := rdG_kept (lit1_c encFd_len wq _ (⟨name, val⟩ : Fd) #[.string name, .int .i64 val] rfl 28) hg7 (by omega)) | skip); clear hg7; have hown7 := Lib.hid hown7)
                  | (refine stepFd rfl (.tmp 41) (.tmp 46) rfl wq.heap.size _ _ (M.take cap) [(⟨name, val⟩ : Fd)] rfl (by first | exact hown7.out | exact OwnG.grown hown7.out ((Below.refl _ _).alloc (Nat.le_refl _) _)) (by first | exact hB7.out.size | exact Nat.le_trans hB7.out.size (by simp)) rfl (by first | exact hL7 | exact rdFd_lit1 w7 (⟨name, val⟩ : Fd) _) hll1 ?_; intro v8 w8 hown8 hg8; have hB8 : Hid (Below wq.heap.size wq w8) := Lib.hid (by first | exact own_below' hown7.out hB7.out hg8 | exact own_below' (OwnG.grown hown7.out ((Below.refl _ _).alloc (Nat.le_refl _) _)) (hB7.out.alloc hB7.out.size _) hg8); clear hg8; have hown8 := Lib.hid hown8)
                  | (refine stepFd rfl (.tmp 47) (.tmp 50) rfl wq.heap.size _ _ (M.take cap ++ [(⟨name, val⟩ : Fd)]) (M.drop cap) rfl hown8.out hB8.out.size rfl (by first | exact rdG_restA encFd_len (hrdq2.out.below hB8.out) cap hpl _ _ _ (by first | exact fun _ => rfl | (intro q; simp; done) | (intro q; have := hMl.out; omega)) (by have := hMl.out; omega) (by have := hMl.out; omega) (by have := hMl.out; omega)) hll2 ?_; intro v9 w9 hown9 hg9; have hB9 : Hid (Below wq.heap.size wq w9) := Lib.hid (own_below' hown8.out hB8.out hg9); have hown9 := Lib.hid hown9; clear hg9))
                all_goals
                  have HR : Hid (OwnFd w9 wq.heap.size v9 (insG flL M ⟨name, val⟩)) := Lib.hid (by have h9 := hown9.out; rw [List.append_assoc] at h9; unfold insG; rw [HP.out]; exact h9)
                  have HRb := Lib.hid (OwnG.base HR.out hBq.out.size)
                  have hln : (insG flL M ⟨name, val⟩).length = cap + 1 := by rw [insG_len, hMl.out]
                  have hB10 := Lib.hid (below_trans' hBq.out hB9.out)
                  have hx2 : Hid (insG flL M ⟨name, val⟩ = srG flL (L.take (cap + 1))) := Lib.hid (by rw [hx.out, hM.out])
                  rcases OwnG.form HRb.out with ⟨_, hnil⟩ | ⟨g9, cap9, rfl, _⟩
                  · rw [hnil] at hln; simp at hln
                  · rw [hln] at HRb ⊢
                    clear hln
                    go_wp2
                    go_roundw
                    case rel => exact ⟨cap + 1, g9, cap9, _, by omega, by go_num, rfl, hx2, Lib.hid (.inr HF.out), HRb, hB10⟩
                    case measure => simp [intOf]; omega
              · have hck1 : ¬ (cap - p = 0) := by omega
                have hck2 : p < cap := by omega
                go_region_law (first
                  | (refine stepFd rfl (.tmp 37) (.tmp 40) rfl wq.heap.size _ _ [] (M.take p) rfl (by first | exact own0_a wq _ (Nat.le_refl _) | exact own0_b wq _ (Nat.le_refl _) _ | exact own0_c wq _ (Nat.le_refl _) _) (by simp <;> omega) rfl (by first | exact (rdG_take encFd_len hrdq.out p hpl cap hkc hcapm.out).below (belN_1 wq _) | exact (rdG_take encFd_len hrdq.out p hpl cap hkc hcapm.out).below (belN_2 wq _ _)) hll0 ?_; intro v7 w7 hown7 hg7; rw [List.nil_append] at hown7; (first | (have hg7 : World.grownBy _ w7 (some wq.heap.size) := hg7) | (have hg7 : World.grownBy _ w7 (some (wq.heap.size + 1)) := hg7)); have hB7 : Hid (Below wq.heap.size wq w7) := Lib.hid (by first | exact (belN_1 wq _).grown hg7 (by simp) (fun q hq => by cases hq; omega) | exact (belN_2 wq _ _).grown hg7 (by simp <;> omega) (fun q hq => by cases hq; omega)); obtain ⟨e0, e1⟩ := hrow.out w7 (below_trans' hBq.out hB7.out); (first | (have hL7 := rdG_kept (lit1_b encFd_len wq _ (⟨name, val⟩ : Fd) #[.string name, .int .i64 val] rfl 28) hg7 (by omega)) | (have hL7 := rdG_kept (lit1_c encFd_len wq _ (⟨name, val⟩ : Fd) #[.string name, .int .i64 val] rfl 28) hg7 (by omega)) | skip); clear hg7; have hown7 := Lib.hid hown7)
                  | (refine stepFd rfl (.tmp 41) (.tmp 46) rfl wq.heap.size _ _ (M.take p) [(⟨name, val⟩ : Fd)] rfl (by first | exact hown7.out | exact OwnG.grown hown7.out ((Below.refl _ _).alloc (Nat.le_refl _) _)) (by first | exact hB7.out.size | exact Nat.le_trans hB7.out.size (by simp)) rfl (by first | exact hL7 | exact rdFd_lit1 w7 (⟨name, val⟩ : Fd) _) hll1 ?_; intro v8 w8 hown8 hg8; have hB8 : Hid (Below wq.heap.size wq w8) := Lib.hid (by first | exact own_below' hown7.out hB7.out hg8 | exact own_below' (OwnG.grown hown7.out ((Below.refl _ _).alloc (Nat.le_refl _) _)) (hB7.out.alloc hB7.out.size _) hg8); clear hg8; have hown8 := Lib.hid hown8)
                  | (refine stepFd rfl (.tmp 47) (.tmp 50) rfl wq.heap.size _ _ (M.take p ++ [(⟨name, val⟩ : Fd)]) (M.drop p) rfl hown8.out hB8.out.size rfl (by first | exact rdG_restA encFd_len (hrdq2.out.below hB8.out) p hpl _ _ _ (by first | exact fun _ => rfl | (intro q; simp; done) | (intro q; have := hMl.out; omega)) (by have := hMl.out; omega) (by have := hMl.out; omega) (by have := hMl.out; omega)) hll2 ?_; intro v9 w9 hown9 hg9; have hB9 : Hid (Below wq.heap.size wq w9) := Lib.hid (own_below' hown8.out hB8.out hg9); have hown9 := Lib.hid hown9; clear hg9))
                all_goals
                  have HR : Hid (OwnFd w9 wq.heap.size v9 (insG flL M ⟨name, val⟩)) := Lib.hid (by have h9 := hown9.out; rw [List.append_assoc] at h9; unfold insG; rw [HP.out]; exact h9)
                  have HRb := Lib.hid (OwnG.base HR.out hBq.out.size)
                  have hln : (insG flL M ⟨name, val⟩).length = k + 1 := by rw [insG_len, hMl.out]
                  have hB10 := Lib.hid (below_trans' hBq.out hB9.out)
                  have hx2 : Hid (insG flL M ⟨name, val⟩ = srG flL (L.take (k + 1))) := Lib.hid (by rw [hx.out, hM.out])
                  rcases OwnG.form HRb.out with ⟨_, hnil⟩ | ⟨g9, cap9, rfl, _⟩
                  · rw [hnil] at hln; simp at hln
                  · rw [hln] at HRb ⊢
                    clear hln
                    go_wp2
                    go_roundw
                    case rel => exact ⟨k + 1, g9, cap9, _, by omega, by go_num, rfl, hx2, Lib.hid (.inr HF.out), HRb, hB10⟩
                    case measure => simp [intOf]; omega
    · have hk' : k = L.length := by omega
      have hd : decide ((k : Int) < (L.length : Int)) = false := decide_eq_false (by omega)
      have HR : Hid (M = soF L) := Lib.hid (by
        rcases hor.out with q | q
        · have : L = [] := List.length_eq_zero_iff.1 (by omega)
          subst this; rw [hM.out, q]; rfl
        · rw [hM.out, soF_in q, hk', List.take_length])
      clear hk'
      go_wp2
      go_ret
      exact ⟨_, rfl, by rw [← HR.out]; exact hown.out, hbr.out⟩
theorem ft_next {S : List Fd} {k : Nat} (h : k < S.length) : ftT (S.take (k + 1)) = if k = 0 then ftI S[k] else ftT (S.take k) ++ 59 :: ftI S[k] := by
  rw [List.take_succ_eq_append_getElem h, ftT_snoc]
  have : (S.take k = []) ↔ k = 0 := by
    constructor
    · intro e; have := congrArg List.length e; rw [List.length_take, List.length_nil] at this; omega
    · rintro rfl; simp
  simp only [this]
theorem ft_item (n : ByteArray) (v : Int) : (n ++ ⟨#[61]⟩ ++ bs (markT v) : ByteArray) = bs (ftI ⟨n, v⟩) := by
  apply ByteArray.ext; apply Array.toList_inj.1
  rw [bs_data]; simp [ftI, bs]
theorem ft_step0 {st : ByteArray} (n : ByteArray) (v : Int) (h : st = bs []) : (st ++ n ++ ⟨#[61]⟩ ++ bs (markT v) : ByteArray) = bs (ftI ⟨n, v⟩) := by
  subst h
  apply ByteArray.ext; apply Array.toList_inj.1
  rw [bs_data]; simp [ftI, bs]
theorem ft_step1 {st : ByteArray} {l : List UInt8} (n : ByteArray) (v : Int) (h : st = bs l) : (st ++ ⟨#[59]⟩ ++ n ++ ⟨#[61]⟩ ++ bs (markT v) : ByteArray) = bs (l ++ 59 :: ftI ⟨n, v⟩) := by
  subst h
  apply ByteArray.ext; apply Array.toList_inj.1
  rw [bs_data]; simp [ftI, bs]
set_option maxRecDepth 100000 in
set_option maxHeartbeats 4000000 in
theorem flS_text (v : Value) (L : List Fd) (w : World) (h : RdG encFd w v L) (hf : FitFds L) :
    Calls Try.prog 21 #[v] w (GotStr (ftT (soF L)) w) := by
  go_enter Try.func21, Try.ntmps21
  go_wp2_with fail
  refine (flS_sort v L _ h hf).mono ?_
  rintro e w2 ⟨u, rfl, hown, hb2⟩
  have hB2 := Lib.hid hb2
  obtain ⟨S, hS⟩ : ∃ S, soF L = S := ⟨_, rfl⟩
  have hv : ∀ a ∈ S, flB a = true := by rw [← hS]; exact (flsB_of (soF_valid L)).2.1
  have h6 : S.length ≤ 6 := by rw [← hS]; exact soF_6 L
  rw [hS] at hown
  have hSS := Lib.hid hS
  have hrd := OwnG.rd hown
  clear hb2 hS h hown
  have hvv := Lib.hid hv
  clear hv
  by_cases hL : S = []
  · subst hL
    obtain ⟨A, c, rfl, hc⟩ := hrd.nil
    go_wp2
    refine wp_loop_rounds 1 ?_
    rw [rounds_succ]; go_wp2
    go_ret
    exact ⟨by rw [hSS.out]; rfl, hB2.out⟩
  · obtain ⟨b, o, c, rfl, h1, h2, hb, h4⟩ := hrd.some hL
    unfold maxLen at h2
    have hcells := Lib.hid (fun k (hk : k < S.length) => rdFd_cells h4 hk)
    clear h4 hL hrd
    go_wp2
    go_loopw [3, 5] (fun s i wr => ∃ (k : Nat) (st : ByteArray), k ≤ S.length ∧ i = .int .i64 k ∧ s = .string st ∧ Hid (st = bs (ftT (S.take k))) ∧ Hid (Below w2.heap.size w2 wr)) (fun _ i _ => S.length - (intOf i).toNat)
    case atStart => exact ⟨0, ⟨#[]⟩, Nat.zero_le _, rfl, rfl, Lib.hid rfl, Lib.hid (Below.refl _ _)⟩
    case round =>
      obtain ⟨k, st, hk, rfl, rfl, hst, hbr⟩ := hrel
      by_cases hlt : k < S.length
      · obtain ⟨c0, c1⟩ := rdFd_at hcells.out hb hbr.out hlt
        have hnx := ft_next hlt
        have hfl := hvv.out _ (List.getElem_mem hlt)
        have hstl : st.size ≤ 96 := by
          rw [hst.out, bs_size]
          have := ftT_len (L := S.take k) (fun a m => hvv.out a (List.mem_of_mem_take m))
          rw [List.length_take] at this; omega
        obtain ⟨e, he⟩ : ∃ e, S[k] = e := ⟨_, rfl⟩
        rw [he] at c0 c1 hnx hfl
        obtain ⟨name, val⟩ := e
        simp only at c0 c1
        have hn8 := (word_len (flB_of hfl).1).2
        rw [blen] at hn8
        simp only at hn8
        have z1 : (bs (markT val)).size ≤ 6 := by rw [bs_size]; exact markT_len val
        have z2 : (⟨#[61]⟩ : ByteArray).size = 1 := rfl
        have z3 : (⟨#[59]⟩ : ByteArray).size = 1 := rfl
        have hjj : (k : Int) < (S.length : Int) := by omega
        have hkk0 : (0 : Int) ≤ (k : Int) := by omega
        clear he hfl
        by_cases z : k = 0
        · have HR : Hid ((st ++ name ++ ⟨#[61]⟩ ++ bs (markT val) : ByteArray) = bs (ftT (S.take (k + 1)))) := Lib.hid (by rw [hnx, if_pos z]; exact ft_step0 name val (by have := hst.out; rw [z] at this; exact this))
          have s1 : st.size + name.size ≤ 9223372036854775807 := by omega
          have s2 : (st ++ name).size + (⟨#[61]⟩ : ByteArray).size ≤ 9223372036854775807 := by simp only [ByteArray.size_append]; omega
          have s3 : (st ++ name ++ ⟨#[61]⟩).size + (bs (markT val)).size ≤ 9223372036854775807 := by simp only [ByteArray.size_append]; omega
          have g0 : decide (0 < k) = false := decide_eq_false (by omega)
          clear z hnx z1 z2 z3 hn8 hstl
          go_wp2_with fail
          go_quiet ((go_at_call 39; exact quiet_eq (smark_any val _)))
          go_wp2
          go_roundw
          case rel => exact ⟨k + 1, _, by omega, by go_num, rfl, HR, Lib.hid (Below.drawn hbr.out _)⟩
          case measure => simp [intOf]; omega
        · have HR : Hid ((st ++ ⟨#[59]⟩ ++ name ++ ⟨#[61]⟩ ++ bs (markT val) : ByteArray) = bs (ftT (S.take (k + 1)))) := Lib.hid (by rw [hnx, if_neg z]; exact ft_step1 name val hst.out)
          have s0 : st.size + (⟨#[59]⟩ : ByteArray).size ≤ 9223372036854775807 := by omega
          have s1 : (st ++ ⟨#[59]⟩).size + name.size ≤ 9223372036854775807 := by simp only [ByteArray.size_append]; omega
          have s2 : (st ++ ⟨#[59]⟩ ++ name).size + (⟨#[61]⟩ : ByteArray).size ≤ 9223372036854775807 := by simp only [ByteArray.size_append]; omega
          have s3 : (st ++ ⟨#[59]⟩ ++ name ++ ⟨#[61]⟩).size + (bs (markT val)).size ≤ 9223372036854775807 := by simp only [ByteArray.size_append]; omega
          have g0 : decide (0 < k) = true := decide_eq_true (by omega)
          clear z hnx z1 z2 z3 hn8 hstl
          go_wp2_with fail
          go_quiet ((go_at_call 39; exact quiet_eq (smark_any val _)))
          go_wp2
          go_roundw
          case rel => exact ⟨k + 1, _, by omega, by go_num, rfl, HR, Lib.hid (Below.drawn hbr.out _)⟩
          case measure => simp [intOf]; omega
      · have HR : Hid (st = bs (ftT S)) := Lib.hid (by have := hst.out; rw [List.take_of_length_le (by omega)] at this; exact this)
        go_wp2
        go_ret
        exact ⟨by rw [hSS.out, HR.out]; rfl, below_trans' hB2.out hbr.out⟩
theorem rdP_fuel : ∀ (n : Nat) (l : List UInt8) (f : Nat), l.length ≤ n → l.length ≤ f → rdP f l = rdP l.length l := by
  intro n
  induction n with
  | zero => intro l f h _; have : l = [] := List.length_eq_zero_iff.1 (by omega)
            subst this; rw [rdP_nil]; rfl
  | succ n ih =>
    intro l f h hf
    cases l with
    | nil => rw [rdP_nil]; rfl
    | cons c t =>
      cases f with
      | zero => simp at hf
      | succ f =>
        have hd : ((c :: t).drop (((c :: t).takeWhile (fun c => c != 59)).length + 1)).length ≤ t.length := by rw [List.length_drop, List.length_cons]; omega
        simp only [List.length_cons] at h hf ⊢
        simp only [rdP]
        rw [ih _ f (by omega) (by omega), ih _ t.length (by omega) hd]
def rdQ (l : List UInt8) : Option (List Fd) := rdP l.length l
theorem rdQ_nil : rdQ [] = some [] := rfl
theorem rdQ_step {l : List UInt8} (h : l ≠ []) : rdQ l = if (61 : UInt8) ∈ l.takeWhile (fun c => c != 59) then (rdQ (l.drop ((l.takeWhile (fun c => c != 59)).length + 1))).map (fun L => fdS (l.takeWhile (fun c => c != 59)) :: L) else none := by
  unfold rdQ
  cases l with
  | nil => exact absurd rfl h
  | cons c t =>
    have hd : ((c :: t).drop (((c :: t).takeWhile (fun c => c != 59)).length + 1)).length ≤ t.length := by rw [List.length_drop, List.length_cons]; omega
    simp only [List.length_cons]
    simp only [rdP]
    rw [if_neg h, rdP_fuel t.length _ t.length hd hd]
/-- the bytes from a on up to the first c -/
theorem tw_drop {s : List UInt8} {c : UInt8} {a e : Nat} (h0 : a ≤ e) (he : e ≤ s.length) (p : ∀ i (hi : i < s.length), a ≤ i → i < e → s[i] ≠ c) (q : e = s.length ∨ ∃ h : e < s.length, s[e] = c) :
    (s.drop a).takeWhile (fun x => x != c) = (s.take e).drop a ∧ (s.drop a).dropWhile (fun x => x != c) = s.drop e := by
  have hno : c ∉ (s.take e).drop a := by
    intro m
    obtain ⟨i, hi, e'⟩ := List.getElem_of_mem m
    rw [List.length_drop, List.length_take] at hi
    rw [List.getElem_drop, List.getElem_take] at e'
    exact p (a + i) (by omega) (by omega) (by omega) e'
  have hs : s.drop a = (s.take e).drop a ++ s.drop e := by
    have h1 : s.drop a = (s.take e ++ s.drop e).drop a := by rw [List.take_append_drop]
    rw [h1, List.drop_append_of_le_length (by rw [List.length_take]; omega)]
  rcases q with q | ⟨h, q⟩
  · have hn : s.drop e = [] := List.drop_eq_nil_of_le (by omega)
    rw [hs, hn, List.append_nil]
    refine ⟨tw_all hno, ?_⟩
    have h3 := List.takeWhile_append_dropWhile (p := fun x => x != c) (l := (s.take e).drop a)
    rw [tw_all hno] at h3
    have := congrArg List.length h3
    rw [List.length_append] at this
    exact List.length_eq_zero_iff.1 (by omega)
  · have hn : s.drop e = c :: s.drop (e + 1) := by rw [List.drop_eq_getElem_cons h, q]
    rw [hs, hn]
    exact tw_app _ hno
/-- one piece -/
theorem rdQ_piece {s : ByteArray} {a e g : Nat} (ha : a < s.size) (h0 : a ≤ e) (he : e ≤ s.size) (p : ∀ i (hi : i < s.size), a ≤ i → i < e → s[i] ≠ 59) (q : e = s.size ∨ ∃ h : e < s.size, s[e] = 59)
    (g0 : a ≤ g) (ge : g ≤ e) (pg : ∀ i (hi : i < s.size), a ≤ i → i < g → s[i] ≠ 61) (qg : g = e ∨ ∃ h : g < s.size, s[g] = 61) :
    rdQ (s.data.toList.drop a) = if g = e then none else (rdQ (s.data.toList.drop (e + 1))).map (fun L => ⟨s.extract a g, readM (s.extract (g + 1) e).data.toList⟩ :: L) := by
  have hl := blen s
  obtain ⟨t1, _⟩ := tw_drop (s := s.data.toList) (c := 59) h0 (by omega) (fun i hi h1 h2 => p i (by omega) h1 h2) (by
    rcases q with q | ⟨h, q⟩
    · exact .inl (by omega)
    · exact .inr ⟨by omega, q⟩)
  have hne : s.data.toList.drop a ≠ [] := by intro h; have := congrArg List.length h; rw [List.length_drop, List.length_nil] at this; omega
  rw [rdQ_step hne, t1]
  have hlen : ((s.data.toList.take e).drop a).length = e - a := by rw [List.length_drop, List.length_take]; omega
  have hrest : (s.data.toList.drop a).drop (((s.data.toList.take e).drop a).length + 1) = s.data.toList.drop (e + 1) := by rw [List.drop_drop, hlen]; congr 1; omega
  rw [hrest]
  by_cases hg : g = e
  · subst hg
    rw [if_pos rfl, if_neg]
    intro m
    obtain ⟨i, hi, e'⟩ := List.getElem_of_mem m
    rw [hlen] at hi
    rw [List.getElem_drop, List.getElem_take] at e'
    exact pg (a + i) (by omega) (by omega) (by omega) e'
  · have hgs : ∃ h : g < s.size, s[g] = 61 := by
      rcases qg with q | q
      · exact absurd q hg
      · exact q
    obtain ⟨hgl, hg61⟩ := hgs
    have htl : (s.data.toList.take e).length = e := by rw [List.length_take]; omega
    obtain ⟨u1, u2⟩ := tw_drop (s := s.data.toList.take e) (c := 61) (a := a) (e := g) g0 (by omega) (fun i hi h1 h2 => by
      rw [List.getElem_take]; exact pg i (by omega) h1 h2) (.inr ⟨by omega, by rw [List.getElem_take]; exact hg61⟩)
    have h61 : (61 : UInt8) ∈ (s.data.toList.take e).drop a := by
      have : ((s.data.toList.take e).drop a)[g - a]'(by rw [hlen]; omega) = 61 := by
        rw [List.getElem_drop, List.getElem_take]
        have : a + (g - a) = g := by omega
        simp only [this]; exact hg61
      rw [← this]; exact List.getElem_mem _
    rw [if_neg hg, if_pos h61]
    have hf : fdS ((s.data.toList.take e).drop a) = ⟨s.extract a g, readM (s.extract (g + 1) e).data.toList⟩ := by
      unfold fdS
      rw [u1, u2]
      have e1 : (s.data.toList.take e).take g = s.data.toList.take g := by rw [List.take_take, Nat.min_eq_left ge]
      have e2 : bs ((s.data.toList.take g).drop a) = s.extract a g := by
        apply ByteArray.ext; apply Array.toList_inj.1; rw [bs_data]
        simp [List.extract_eq_take_drop, List.drop_take]
      have e3 : ((s.data.toList.take e).drop g).drop 1 = (s.extract (g + 1) e).data.toList := by
        rw [List.drop_drop]; simp [List.extract_eq_take_drop, List.drop_take]
      rw [e1, e2, e3]
    rw [hf]
theorem rdQ_next {s : List UInt8} {M : List Fd} {x : Fd} {a a' : Nat} (h : rdQ s = (rdQ (s.drop a)).map (fun L => M ++ L)) (k : rdQ (s.drop a) = (rdQ (s.drop a')).map (fun L => x :: L)) : rdQ s = (rdQ (s.drop a')).map (fun L => (M ++ [x]) ++ L) := by
  rw [h, k, Option.map_map]
  congr 1
  funext L
  simp
/-- fields and whether -/
def GotFls (P : List Fd × Bool) (w : World) (e : Ending) (w' : World) : Prop := ∃ u : Value, e = .returned (.tuple #[u, .bool P.2]) ∧ OwnFd w' w.heap.size u P.1 ∧ Below w.heap.size w w'
set_option maxRecDepth 100000 in
set_option maxHeartbeats 8000000 in
theorem flS_read (s : ByteArray) (w : World) (hs : s.size ≤ 90000000) :
    Calls Try.prog 24 #[.string s] w (GotFls (flR s.data.toList) w) := by
  have hown0 := Lib.hid (ownFd_none w w.heap.size (Nat.le_refl _))
  have hb0 := Lib.hid ((Below.refl w.heap.size w).alloc (Nat.le_refl _) (.cells #[] 28))
  go_enter Try.func24, Try.ntmps24
  go_wp2
  go_loopw [4, 5, 6, 7] (fun y i _ _ wr => ∃ (a k g cap : Nat) (M : List Fd), a ≤ s.size + 1 ∧ k ≤ a ∧ i = .int .i64 a ∧ y = .slice (some ⟨g, 0, none⟩) k cap ∧ Hid (M.length = k) ∧ Hid (OwnFd wr w.heap.size (.slice (some ⟨g, 0, none⟩) k cap) M) ∧ Hid (rdQ s.data.toList = (rdQ (s.data.toList.drop a)).map (fun L => M ++ L)) ∧ Hid (FitFds M) ∧ Hid (Below w.heap.size w wr)) (fun _ i _ _ _ => s.size + 1 - (intOf i).toNat)
  case atStart => exact ⟨0, 0, w.heap.size, 0, [], by omega, by omega, rfl, rfl, Lib.hid rfl, hown0, Lib.hid (by simp), Lib.hid (fun _ m => by simp at m), hb0⟩
  case round =>
    obtain ⟨a, k, g, cap, M, ha, hka, rfl, rfl, hMl, hown, hrq, hfit, hbr⟩ := hrel
    have ha0 : (0 : Int) ≤ (a : Int) := by omega
    by_cases hlt : a < s.size
    · have hjj : (a : Int) < (s.size : Int) := by omega
      go_wp2
      go_loopw [6] (fun v wx => ∃ e : Nat, a ≤ e ∧ e ≤ s.size ∧ v = .int .i64 e ∧ Hid (∀ i (hi : i < s.size), a ≤ i → i < e → s[i] ≠ 59) ∧ wx = wr) (fun v _ => s.size - (intOf v).toNat)
      case atStart => exact ⟨a, Nat.le_refl _, by omega, rfl, Lib.hid (by intro i hi h1 h2; omega), rfl⟩
      case round =>
        obtain ⟨e, he0, he, rfl, hp, rfl⟩ := hrel
        have hee0 : (0 : Int) ≤ (e : Int) := by omega
        have hgo : (e < s.size ∧ s[e]! ≠ 59) ∨ (e = s.size ∨ ∃ h : e < s.size, s[e] = 59) := by
          by_cases h1 : e < s.size
          · by_cases h2 : s[e] = 59
            · exact .inr (.inr ⟨h1, h2⟩)
            · exact .inl ⟨h1, by rw [getElem!_pos s e h1]; exact h2⟩
          · exact .inr (.inl (by omega))
        rcases hgo with ⟨h1, h2⟩ | hq
        · have HN := Lib.hid (place_next h2 hp.out)
          rw [getElem!_pos s e h1] at h2
          have b1 : ((s[e].toNat : Int) == 59) = false := by rw [beq_eq_false_iff_ne]; intro q; exact h2 (UInt8.toNat_inj.1 (by simp; omega))
          have hj1 : (e : Int) < (s.size : Int) := by omega
          clear h2
          go_wp2
          go_roundw
          case rel => exact ⟨e + 1, by omega, by omega, by go_num, HN, by trivial⟩
          case measure => simp [intOf]; omega
        · have HQ := Lib.hid hq
          have hfork : (∃ h : e < s.size, ((s[e].toNat : Int) == 59) = true ∧ decide ((e : Int) < (s.size : Int)) = true) ∨ (¬ e < s.size ∧ decide ((e : Int) < (s.size : Int)) = false) := by
            rcases hq with q | ⟨h, q⟩
            · exact .inr ⟨by omega, decide_eq_false (by omega)⟩
            · exact .inl ⟨h, by rw [q]; rfl, decide_eq_true (by omega)⟩
          clear hq
          rcases hfork with ⟨h1, b1, b2⟩ | ⟨h1, b2⟩
          all_goals
            go_wp2
            clear b2
            go_loopw [7] (fun v wx => ∃ sg : Nat, a ≤ sg ∧ sg ≤ e ∧ v = .int .i64 sg ∧ Hid (∀ i (hi : i < s.size), a ≤ i → i < sg → s[i] ≠ 61) ∧ wx = wr) (fun v _ => e - (intOf v).toNat)
            case atStart => exact ⟨a, Nat.le_refl _, by omega, rfl, Lib.hid (by intro i hi h1 h2; omega), rfl⟩
            case round =>
              obtain ⟨sg, hg0, hge, rfl, hpg, rfl⟩ := hrel
              have hgg0 : (0 : Int) ≤ (sg : Int) := by omega
              have hgo : (sg < e ∧ ∃ h : sg < s.size, s[sg] ≠ 61) ∨ (sg = e ∨ ∃ h : sg < s.size, s[sg] = 61) := by
                by_cases h1 : sg < e
                · by_cases h2 : s[sg]'(by omega) = 61
                  · exact .inr (.inr ⟨by omega, h2⟩)
                  · exact .inl ⟨h1, by omega, h2⟩
                · exact .inr (.inl (by omega))
              rcases hgo with ⟨h3, h4, h5⟩ | hqg
              · have HN := Lib.hid (place_next (s := s) (p := a) (k := sg) (c := 61) (by rw [getElem!_pos s sg h4]; exact h5) hpg.out)
                have b3 : ((s[sg].toNat : Int) == 61) = false := by rw [beq_eq_false_iff_ne]; intro q; exact h5 (UInt8.toNat_inj.1 (by simp; omega))
                have hj3 : (sg : Int) < (e : Int) := by omega
                have hj4 : (sg : Int) < (s.size : Int) := by omega
                clear h5
                go_wp2
                go_roundw
                case rel => exact ⟨sg + 1, by omega, by omega, by go_num, HN, by trivial⟩
                case measure => simp [intOf]; omega
              · have HP := Lib.hid (rdQ_piece (s := s) (a := a) (e := e) (g := sg) hlt he0 he hp.out HQ.out hg0 hge hpg.out hqg)
                by_cases hse : sg = e
                · subst hse
                  have HR : Hid (flR s.data.toList = ([], false)) := Lib.hid (flR_none (by
                    have h6 := hrq.out
                    rw [HP.out, if_pos rfl] at h6
                    exact h6))
                  have q1 : ((sg : Int) == (sg : Int)) = true := by simp
                  have hnone := Lib.hid (ownFd_none wr w.heap.size hbr.out.size)
                  have hd : decide (sg < sg) = false := by simp
                  clear hqg
                  go_wp2
                  go_ret2
                  exact ⟨_, by rw [HR.out]; rfl, by rw [HR.out]; exact hnone.out, hbr.out.alloc hbr.out.size _⟩
                · have hsgl : sg < e := by omega
                  have h61 : ∃ h : sg < s.size, s[sg] = 61 := by
                    rcases hqg with q | q
                    · exact absurd q hse
                    · exact q
                  obtain ⟨h4, h5⟩ := h61
                  have b3 : ((s[sg].toNat : Int) == 61) = true := by rw [h5]; rfl
                  have q1 : ((sg : Int) == (e : Int)) = false := by rw [beq_eq_false_iff_ne]; omega
                  have HP2 : Hid (rdQ (s.data.toList.drop a) = (rdQ (s.data.toList.drop (e + 1))).map (fun L => (⟨s.extract a sg, readM (s.extract (sg + 1) e).data.toList⟩ : Fd) :: L)) := Lib.hid (by rw [HP.out, if_neg hse])
                  have HX := Lib.hid (rdQ_next hrq.out HP2.out)
                  have hj3 : (sg : Int) < (e : Int) := by omega
                  have hj4 : (sg : Int) < (s.size : Int) := by omega
                  have hj5 : (sg : Int) + 1 ≤ (e : Int) := by omega
                  have hj6 : (sg : Int) ≤ (s.size : Int) := by omega
                  have hj7 : (e : Int) ≤ (s.size : Int) := by omega
                  have hj8 : (a : Int) ≤ (sg : Int) := by omega
                  have hn1 : (s.extract a sg).size ≤ 90000000 := by rw [ByteArray.size_extract]; omega
                  have hn2 : (s.extract (sg + 1) e).size ≤ maxLen := by rw [ByteArray.size_extract]; unfold maxLen; omega
                  obtain ⟨nm, hnm⟩ : ∃ nm, s.extract a sg = nm := ⟨_, rfl⟩
                  obtain ⟨vl, hvl⟩ : ∃ vl, s.extract (sg + 1) e = vl := ⟨_, rfl⟩
                  rw [hnm, hvl] at HX
                  rw [hnm] at hn1
                  rw [hvl] at hn2
                  obtain ⟨z, hz⟩ : ∃ z, readM vl.data.toList = z := ⟨_, rfl⟩
                  rw [hz] at HX
                  have hz := Lib.hid hz
                  have iw := IntWalk.i64_in ((sg : Int) + 1) (by omega)
                  have iw2 : (0 : Int) ≤ (sg : Int) + 1 := by omega
                  have iw3 : ((sg : Int) + 1).toNat = sg + 1 := by omega
                  have hll : M.length + [(⟨nm, z⟩ : Fd)].length ≤ 1073741824 := by have := hMl.out; simp; omega
                  have hszr := hbr.out.size
                  have hfit2 : Hid (FitFds (M ++ [⟨nm, z⟩])) := Lib.hid (fun y m => by
                    rcases List.mem_append.1 m with m | m
                    · exact hfit.out y m
                    · have : y = ⟨nm, z⟩ := by simpa using m
                      rw [this]; show nm.size ≤ _; omega)
                  clear hqg h5 hse HP
                  go_wp2_with fail
                  go_region_law (first
                    | (go_simp; go_at_call 44; refine (sreadm_any vl _ hn2).mono ?_; rintro e w' ⟨rfl, rfl⟩; rw [hz.out])
                    | (refine stepFd rfl (.tmp 42) (.tmp 54) rfl w.heap.size _ _ M [(⟨nm, z⟩ : Fd)] rfl (OwnG.grown hown.out (Below.drew ((Below.refl _ _).alloc (Nat.le_refl _) _))) (by simp; omega) rfl ((rdFd_lit1 wr (⟨nm, z⟩ : Fd) _).below (Below.drew (Below.refl _ _))) hll ?_; intro v7 w7 hown7 hg7; have hB7 : Hid (Below w.heap.size w w7) := Lib.hid (own_below' (OwnG.grown hown.out (Below.drew ((Below.refl _ _).alloc (Nat.le_refl _) _))) (Below.drew (hbr.out.alloc hszr _)) hg7); have hown7 := Lib.hid hown7; clear hg7))
                  all_goals
                    have hl7 : (M ++ [(⟨nm, z⟩ : Fd)]).length = k + 1 := by have := hMl.out; simp; omega
                    rcases OwnG.form hown7.out with ⟨_, hnil⟩ | ⟨g7, cap7, rfl, _⟩
                    · simp at hnil
                    · rw [hl7] at hown7 ⊢
                      have hl7 := Lib.hid hl7
                      have iw4 := IntWalk.i64_in ((e : Int) + 1) (by omega)
                      go_wp2
                      go_roundw
                      case rel => exact ⟨e + 1, k + 1, g7, cap7, M ++ [⟨nm, z⟩], by omega, by omega, by go_num, rfl, hl7, hown7, HX, hfit2, hB7⟩
                      case measure => simp [intOf]; omega
    · have hM : rdP s.data.toList.length s.data.toList = some M := by
        have h1 := hrq.out
        rw [List.drop_eq_nil_of_le (by rw [blen]; omega), rdQ_nil] at h1
        unfold rdQ at h1
        simpa using h1
      have hM := Lib.hid hM
      have hrd := Lib.hid (OwnG.rd hown.out)
      have hd : decide ((a : Int) < (s.size : Int)) = false := decide_eq_false (by omega)
      go_wp2_with fail
      refine (flS_valid _ M _ hrd.out hfit.out).mono ?_
      rintro e w3 ⟨rfl, hb3⟩
      have hB3 := Lib.hid (below_trans' hbr.out hb3)
      have hown3 := Lib.hid (OwnG.grown hown.out hb3)
      have hrd3 := Lib.hid (hrd.out.below hb3)
      clear hb3
      rcases hF : flsB M with _ | _
      · have HR : Hid (flR s.data.toList = ([], false)) := Lib.hid (flR_bad hM.out (.inl hF))
        have hnone := Lib.hid (ownFd_none w3 w.heap.size hB3.out.size)
        clear hF
        go_wp2
        go_ret2
        exact ⟨_, by rw [HR.out]; rfl, by rw [HR.out]; exact hnone.out, hB3.out.alloc hB3.out.size _⟩
      · have HF := Lib.hid hF
        clear hF
        go_wp2_with fail
        refine (flS_text _ M _ hrd3.out hfit.out).mono ?_
        rintro e w4 ⟨rfl, hb4⟩
        have hB4 := Lib.hid (below_trans' hB3.out hb4)
        have hown4 := Lib.hid (OwnG.grown hown3.out hb4)
        clear hb4
        by_cases ht : bs (ftT (soF M)) = s
        · have q := str_same ht
          have HR : Hid (flR s.data.toList = (M, true)) := Lib.hid (flR_yes hM.out HF.out (by rw [← ht, bs_data]))
          clear ht
          go_wp2
          go_ret2
          exact ⟨_, by rw [HR.out]; rfl, by rw [HR.out]; exact hown4.out, hB4.out⟩
        · have q := str_other ht
          have HR : Hid (flR s.data.toList = ([], false)) := Lib.hid (flR_bad hM.out (.inr (fun e => ht (by apply ByteArray.ext; apply Array.toList_inj.1; rw [bs_data]; exact e))))
          have hnone := Lib.hid (ownFd_none w4 w.heap.size hB4.out.size)
          clear ht
          go_wp2
          go_ret2
          exact ⟨_, by rw [HR.out]; rfl, by rw [HR.out]; exact hnone.out, hB4.out.alloc hB4.out.size _⟩
end Go.Proofs.Ytchknjhfodofcaa
