/-
  The verifier's own text: ActS ActA ActN.
-/
import Derived.Test.YtacapigdfabiiaaRows
import Derived.Test.YtacapigdfabiiaaHC
import Derived.Test.YtacapigdfabiiaaHA
import Derived.Test.YtacapigdfabiiaaGo
import Derived.Test.YtacapigdfabiiaaGi
import Derived.Laws.Cover1
import Derived.Test.YtacapigdfabiiaaGf
import Derived.Deep.DeepCutAuto
import Derived.Deep.RegionLaw
import Derived.WalkKit
import Derived.ProofKit
import Derived.Below
import Derived.Lib.Hide
import Derived.Outline
import Derived.BigQuiet
import Derived.Deep.QuietTactic
import Derived.Deep.Draws
import Derived.Laws.OwnMore
import Derived.Laws.Rows
import Derived.WalkSpells
import Derived.Deep.RegionWith
namespace Go.Proofs.Ytacapigdfabiiaa
open Go.RowKit
set_option linter.unusedVariables false
theorem acB_bad {a : Ac} (h : wordB a.name.data.toList = false ∨ wordB a.feed.data.toList = false ∨ inB a.sign 0 1000000000 = false) : acB a = false := by
  unfold acB; rcases h with h | h | h
  · rw [h]; rfl
  · rw [h]; simp
  · unfold inB at h; rw [h]; simp
theorem acB_good {a : Ac} (h0 : wordB a.name.data.toList = true) (h1 : wordB a.feed.data.toList = true) (h2 : inB a.sign 0 1000000000 = true) : acB a = true := by
  unfold acB; unfold inB at h2; rw [h0, h1, h2]; rfl
theorem leq_no {a p : ByteArray} (h : Op.bytesLess p.data.toList a.data.toList = false) : (Op.bytesLess a.toList p.toList || a.toList == p.toList) = true := by
  rw [ByteArray.toList_eq, ByteArray.toList_eq]
  by_cases e : p.data.toList = a.data.toList
  · rw [e]; simp
  · rw [less_total e h]; rfl
theorem leq_yes {a p : ByteArray} (h : Op.bytesLess p.data.toList a.data.toList = true) : Op.bytesLess a.toList p.toList = false ∧ (a.toList == p.toList) = false := by
  rw [ByteArray.toList_eq, ByteArray.toList_eq]
  exact ⟨(less_asymm h).1, by have := (less_asymm h).2; simpa using this⟩
set_option maxRecDepth 100000 in
set_option maxHeartbeats 4000000 in
theorem acS_valid (v : Value) (L : List Ac) (w : World) (h : RdG encAc w v L) (hf : FitAcs L) :
    Calls Try.prog 23 #[v] w (GotB (acsB L) w) := by
  by_cases hL : L = []
  · subst hL
    obtain ⟨A, c, rfl, hc⟩ := h.nil
    go_enter Try.func23, Try.ntmps23
    go_wp2
    refine wp_loop_rounds 1 ?_
    rw [rounds_succ]; go_wp2
    go_ret
    exact ⟨rfl, Below.refl _ _⟩
  · obtain ⟨b, o, c, rfl, h1, h2, hb, h4⟩ := h.some hL
    unfold maxLen at h2
    have hcells := Lib.hid (fun k (hk : k < L.length) => rdAc_cells h4 hk)
    clear h4 hL
    go_enter Try.func23, Try.ntmps23
    go_wp2
    go_loopw [3, 4, 5] (fun i aa jj wr => ∃ k : Nat, k ≤ L.length ∧ i = .int .i64 k ∧ Hid (PreA L k) ∧ Hid (Below w.heap.size w wr)) (fun i _ _ _ => L.length - (intOf i).toNat)
    case atStart => exact ⟨0, Nat.zero_le _, rfl, Lib.hid (preA_zero L), Lib.hid (Below.refl _ _)⟩
    case round =>
      obtain ⟨k, hk, rfl, hp, hbr⟩ := hrel
      by_cases hlt : k < L.length
      · obtain ⟨c0, c1, c2⟩ := rdAc_at hcells.out hb hbr.out hlt
        have hfi := hf _ (List.getElem_mem hlt)
        have hbad := fun q => acsB_item (L := L) hlt q
        have hnext := fun q r d => preA_next (L := L) hlt hp.out q r d
        have htw := fun j hj e => acsB_feed (L := L) (j := j) hj hlt e
        have hasc := fun h0 q => acsB_asc (L := L) (k := k) h0 hlt q
        obtain ⟨e, he⟩ : ∃ e, L[k] = e := ⟨_, rfl⟩
        rw [he] at c0 c1 c2 hfi hbad hnext htw hasc
        obtain ⟨name, feed, sign⟩ := e
        simp only at c0 c1 c2
        obtain ⟨m0, m1⟩ := hfi
        have m0 := fit_max m0
        have m1 := fit_max m1
        simp only at m0 m1
        have hjj : (k : Int) < (L.length : Int) := by omega
        have hkk0 : (0 : Int) ≤ (k : Int) := by omega
        obtain ⟨w1, hw1⟩ : ∃ w1, wr.alloc (.cells #[.string name, .string feed, .int .i64 sign] 33) = w1 := ⟨_, rfl⟩
        have hb1 : Below wr.heap.size wr w1 := by rw [← hw1]; exact (Below.refl _ _).alloc (Nat.le_refl _) _
        have hB1 := Lib.hid (below_trans' hbr.out hb1)
        have hrow := Lib.hid (fun wX (hX : Below w1.heap.size w1 wX) => row3 hw1 hX)
        obtain ⟨y0, y1, y2⟩ := hrow.out w1 (Below.refl _ _)
        have HX := Lib.hid hnext
        have HT := Lib.hid htw
        have HA := Lib.hid hasc
        have he := Lib.hid he
        have hbad := Lib.hid hbad
        clear hnext htw hasc hb1
        go_wp2
        have hw1 := Lib.hid hw1
        rcases hi0 : wordB name.data.toList with _ | _
        · have HR := Lib.hid (hbad.out (acB_bad (.inl hi0)))
          go_quiet ((go_at_call 52; with_reducible exact sword_q name _ _ _ hi0 m0))
          go_wp2
          go_ret
          exact ⟨ret_bool HR.out.symm, Below.drawn hB1.out _⟩
        · rcases hi1 : wordB feed.data.toList with _ | _
          · have HR := Lib.hid (hbad.out (acB_bad (.inr (.inl hi1))))
            go_quiet (first | (go_at_call 52; with_reducible exact sword_q name _ _ _ hi0 m0) | (go_at_call 52; with_reducible exact sword_q feed _ _ _ hi1 m1))
            go_wp2
            go_ret
            exact ⟨ret_bool HR.out.symm, Below.drawn hB1.out _⟩
          · rcases hi2 : inB sign 0 1000000000 with _ | _
            · have HR := Lib.hid (hbad.out (acB_bad (.inr (.inr hi2))))
              go_quiet (first | (go_at_call 52; with_reducible exact sword_q name _ _ _ hi0 m0) | (go_at_call 52; with_reducible exact sword_q feed _ _ _ hi1 m1) | (go_at_call 46; with_reducible exact l1In_q sign 0 1000000000 _ _ _ hi2))
              go_wp2
              go_ret
              exact ⟨ret_bool HR.out.symm, Below.drawn hB1.out _⟩
            · have HG := Lib.hid (acB_good (a := ⟨name, feed, sign⟩) hi0 hi1 hi2)
              rcases k with _ | p
              · go_quiet (first | (go_at_call 52; with_reducible exact sword_q name _ _ _ hi0 m0) | (go_at_call 52; with_reducible exact sword_q feed _ _ _ hi1 m1) | (go_at_call 46; with_reducible exact l1In_q sign 0 1000000000 _ _ _ hi2))
                obtain ⟨w2, hw2⟩ : ∃ w2, w1.drewN nq = w2 := ⟨_, rfl⟩
                have hb12 : Below w1.heap.size w1 w2 := by rw [← hw2]; exact below_drewN w1 nq
                have hB2 := Lib.hid (below_trans' hB1.out hb12)
                have hrow2 := Lib.hid (fun wX (hX : Below w2.heap.size w2 wX) => hrow.out wX (below_trans' hb12 hX))
                rw [hw2]
                clear hw2 hb12 hi0 hi1 hi2 c0 c1 c2 y0 y1 y2
                go_wp2
                go_loopw [5] (fun jj wx => ∃ j : Nat, j ≤ 0 ∧ jj = .int .i64 j ∧ Hid (∀ i (hi : i < j) (hl : i < L.length), L[i].feed ≠ feed) ∧ Hid (Below w2.heap.size w2 wx)) (fun jj _ => 0 - (intOf jj).toNat)
                case atStart => exact ⟨0, Nat.zero_le _, rfl, Lib.hid (by intro i hi; omega), Lib.hid (Below.refl _ _)⟩
                case round =>
                  obtain ⟨j, hj, rfl, hq, hbi⟩ := hrel
                  by_cases hjk : j < 0
                  · exact absurd hjk (by omega)
                  · have hBi := Lib.hid (below_trans' hB2.out hbi.out)
                    have hd : Hid (PreA L (0 + 1)) := Lib.hid (HX.out HG.out (fun h0 => absurd h0 (by omega)) (fun i hi => hq.out i (by omega) (by omega)))
                    go_wp2
                    go_roundw
                    case rel => exact ⟨0 + 1, by omega, by go_num, hd, hBi⟩
                    case measure => simp [intOf]; omega
              · obtain ⟨d0, d1, d2⟩ := rdAc_at hcells.out hb hB1.out (k := p) (by omega)
                have HA' := HA.out (by omega)
                simp only [Nat.add_sub_cancel] at HA'
                have HX' := Lib.hid (fun (q : acL (L[p]'(by omega)) ⟨name, feed, sign⟩ = true) d => HX.out HG.out (fun _ => by simpa using q) d)
                obtain ⟨x, hx⟩ : ∃ x, L[p]'(by omega) = x := ⟨_, rfl⟩
                obtain ⟨xn, xf, xs⟩ := x
                rw [hx] at d0 d1 d2 HA' HX'
                simp only at d0 d1 d2
                have g0 : decide (0 < p + 1) = true := by simp
                have iw := IntWalk.i64_in (p : Int) (by omega)
                have g1 : (p : Int) < (L.length : Int) := by omega
                have g2 : (0 : Int) ≤ (p : Int) := by omega
                rcases hle : acL ⟨xn, xf, xs⟩ ⟨name, feed, sign⟩ with _ | _
                · have HR := Lib.hid (HA' hle)
                  have hleq := leq_no hle
                  clear hle HA' HX' hx
                  go_quiet (first | (go_at_call 52; with_reducible exact sword_q name _ _ _ hi0 m0) | (go_at_call 52; with_reducible exact sword_q feed _ _ _ hi1 m1) | (go_at_call 46; with_reducible exact l1In_q sign 0 1000000000 _ _ _ hi2))
                  go_wp2
                  go_ret
                  exact ⟨ret_bool HR.out.symm, Below.drawn hB1.out _⟩
                · obtain ⟨l0, l1⟩ := leq_yes hle
                  have HL := Lib.hid hle
                  clear hle HA' hx
                  go_quiet (first | (go_at_call 52; with_reducible exact sword_q name _ _ _ hi0 m0) | (go_at_call 52; with_reducible exact sword_q feed _ _ _ hi1 m1) | (go_at_call 46; with_reducible exact l1In_q sign 0 1000000000 _ _ _ hi2))
                  clear d0 d1 d2 l0 l1 g0 g1 g2
                  obtain ⟨w2, hw2⟩ : ∃ w2, w1.drewN nq = w2 := ⟨_, rfl⟩
                  have hb12 : Below w1.heap.size w1 w2 := by rw [← hw2]; exact below_drewN w1 nq
                  have hB2 := Lib.hid (below_trans' hB1.out hb12)
                  have hrow2 := Lib.hid (fun wX (hX : Below w2.heap.size w2 wX) => hrow.out wX (below_trans' hb12 hX))
                  rw [hw2]
                  clear hw2 hb12 hi0 hi1 hi2 c0 c1 c2 y0 y1 y2
                  go_wp2
                  go_loopw [5] (fun jj wx => ∃ j : Nat, j ≤ (p + 1) ∧ jj = .int .i64 j ∧ Hid (∀ i (hi : i < j) (hl : i < L.length), L[i].feed ≠ feed) ∧ Hid (Below w2.heap.size w2 wx)) (fun jj _ => (p + 1) - (intOf jj).toNat)
                  case atStart => exact ⟨0, Nat.zero_le _, rfl, Lib.hid (by intro i hi; omega), Lib.hid (Below.refl _ _)⟩
                  case round =>
                    obtain ⟨j, hj, rfl, hq, hbi⟩ := hrel
                    by_cases hjk : j < (p + 1)
                    · have hjl : j < L.length := by omega
                      have hBi := Lib.hid (below_trans' hB2.out hbi.out)
                      obtain ⟨d0, d1, d2⟩ := rdAc_at hcells.out hb hBi.out hjl
                      obtain ⟨y0, y1, y2⟩ := hrow2.out _ hbi.out
                      have hT2 := HT.out j hjk
                      have hq2 : L[j].feed ≠ feed → ∀ i (hi : i < j + 1) (hl : i < L.length), L[i].feed ≠ feed := fun q i hi hl => by
                        by_cases e : i = j
                        · subst e; exact q
                        · exact hq.out i (by omega) hl
                      obtain ⟨x, hx⟩ : ∃ x, L[j] = x := ⟨_, rfl⟩
                      obtain ⟨xn, xf, xs⟩ := x
                      rw [hx] at d0 d1 d2 hT2 hq2
                      simp only at d0 d1 d2 hT2 hq2
                      have j0 : (0 : Int) ≤ (j : Int) := by omega
                      have j1 : (j : Int) < (L.length : Int) := by omega
                      have j2 : (j : Int) < (((p + 1) : Nat) : Int) := by omega
                      clear hx
                      by_cases hn : xf = feed
                      · have HR := Lib.hid (hT2 hn)
                        have q := str_same hn
                        clear hn hT2 hq2
                        go_wp2
                        go_quiet (fail)
                        go_wp2
                        go_ret
                        exact ⟨ret_bool HR.out.symm, Below.drawn hBi.out _⟩
                      · have HN := Lib.hid (hq2 hn)
                        have q := str_other hn
                        clear hn hT2 hq2
                        go_wp2
                        go_quiet (fail)
                        go_wp2
                        go_roundw
                        case rel => exact ⟨j + 1, by omega, by go_num, HN, Lib.hid (Below.drawn hbi.out _)⟩
                        case measure => simp [intOf]; omega
                    · have hBi := Lib.hid (below_trans' hB2.out hbi.out)
                      have hd : Hid (PreA L ((p + 1) + 1)) := Lib.hid (HX'.out HL.out (fun i hi => hq.out i (by omega) (by omega)))
                      go_wp2
                      go_roundw
                      case rel => exact ⟨(p + 1) + 1, by omega, by go_num, hd, hBi⟩
                      case measure => simp [intOf]; omega
      · have HR := Lib.hid (preA_end (L := L) (k := k) (by omega) hp.out)
        go_wp2
        go_ret
        exact ⟨ret_bool HR.out, hbr.out⟩
/-- what adding leads to -/
def GotAd (P : List Ac × Bool) (w : World) (e : Ending) (w' : World) : Prop := ∃ u : Value, e = .returned (.tuple #[u, .bool P.2]) ∧ OwnAc w' w.heap.size u P.1 ∧ Below w.heap.size w w'
theorem fitAcs_take {L : List Ac} (h : FitAcs L) (a : Ac) (ha : FitAc a) : FitAcs (insG acL L a) := fun e m => by
  rcases insG_mem.1 m with m | rfl
  · exact h e m
  · exact ha
set_option maxRecDepth 100000 in
set_option maxHeartbeats 4000000 in
theorem acS_named (v : Value) (L : List Ac) (n : ByteArray) (w : World) (h : RdG encAc w v L) (hf : FitAcs L) :
    Calls Try.prog 26 #[v, .string n] w (GotInt (acN L n) w) := by
  by_cases hL : L = []
  · subst hL
    obtain ⟨A, c, rfl, hc⟩ := h.nil
    go_enter Try.func26, Try.ntmps26
    go_wp2
    refine wp_loop_rounds 1 ?_
    rw [rounds_succ]; go_wp2
    go_ret
    exact ⟨by unfold acN; split <;> rfl, Below.refl _ _⟩
  · have hrd := Lib.hid h
    obtain ⟨b, o, c, rfl, h1, h2, hb, h4⟩ := h.some hL
    unfold maxLen at h2
    have hcells := Lib.hid (fun k (hk : k < L.length) => rdAc_cells h4 hk)
    clear h4 hL h
    go_enter Try.func26, Try.ntmps26
    go_wp2
    go_loopw [5] (fun i wr => ∃ k : Nat, k ≤ L.length ∧ i = .int .i64 k ∧ Hid (k = 0 ∨ acsB L = true) ∧ Hid (acAt L n 0 = acAt (L.drop k) n k) ∧ Hid (Below w.heap.size w wr)) (fun i _ => L.length - (intOf i).toNat)
    case atStart => exact ⟨0, Nat.zero_le _, rfl, Lib.hid (.inl rfl), Lib.hid (by simp), Lib.hid (Below.refl _ _)⟩
    case round =>
      obtain ⟨k, hk, rfl, hp, hat, hbr⟩ := hrel
      by_cases hlt : k < L.length
      · have hj0 : (0 : Int) ≤ (k : Int) := by omega
        have hjj : (k : Int) < (L.length : Int) := by omega
        go_wp2_with fail
        refine (acS_valid _ L _ (hrd.out.below hbr.out) hf).mono ?_
        rintro e w3 ⟨rfl, hb3⟩
        have hB3 := Lib.hid (below_trans' hbr.out hb3)
        clear hb3
        rcases hF : acsB L with _ | _
        · have HR := Lib.hid (acN_out (n := n) hF)
          have hk0 : k = 0 := by
            rcases hp.out with h | h
            · exact h
            · rw [hF] at h; cases h
          clear hF
          go_wp2
          go_ret
          exact ⟨by rw [HR.out]; rfl, hB3.out⟩
        · have HF := Lib.hid hF
          have HE := Lib.hid ((acN_in (n := n) hF).trans (hat.out.trans (acAt_drop hlt)))
          have HN := Lib.hid (hat.out.trans (acAt_drop hlt))
          obtain ⟨d0, d1, d2⟩ := rdAc_at hcells.out hb hB3.out hlt
          obtain ⟨x, hx⟩ : ∃ x, L[k] = x := ⟨_, rfl⟩
          obtain ⟨xn, xf, xs⟩ := x
          rw [hx] at d0 d1 d2 HE HN
          simp only at d0 d1 d2 HE HN
          clear hF hx
          by_cases hn : xn = n
          · have q := str_same hn
            have HR : Hid (acN L n = k) := Lib.hid (by rw [HE.out, if_pos hn])
            clear hn
            go_wp2
            go_ret
            exact ⟨by rw [HR.out]; rfl, hB3.out⟩
          · have q := str_other hn
            have HX : Hid (acAt L n 0 = acAt (L.drop (k + 1)) n (k + 1)) := Lib.hid (by rw [HN.out, if_neg hn])
            clear hn
            go_wp2
            go_roundw
            case rel => exact ⟨k + 1, by omega, by go_num, Lib.hid (.inr HF.out), HX, hB3⟩
            case measure => simp [intOf]; omega
      · have HR : Hid (acN L n = -1) := Lib.hid (by
          rcases q : acsB L with _ | _
          · exact acN_out q
          · rw [acN_in q, hat.out, acAt_end (by omega)])
        go_wp2
        go_ret
        exact ⟨by rw [HR.out]; rfl, hbr.out⟩
set_option maxRecDepth 100000 in
set_option maxHeartbeats 16000000 in
theorem acS_add (v : Value) (L : List Ac) (name feed : ByteArray) (sign : Int) (w : World) (h : RdG encAc w v L) (hf : FitAcs L) (hfa : FitAc ⟨name, feed, sign⟩) :
    Calls Try.prog 29 #[v, .agg #[.string name, .string feed, .int .i64 sign]] w (GotAd (adA L ⟨name, feed, sign⟩) w) := by
  obtain ⟨w1, hw1⟩ : ∃ w1, w.alloc (.cells #[.string name, .string feed, .int .i64 sign] 33) = w1 := ⟨_, rfl⟩
  have hb1 : Below w.heap.size w w1 := by rw [← hw1]; exact (Below.refl _ _).alloc (Nat.le_refl _) _
  have hrow := Lib.hid (fun wX (hX : Below w1.heap.size w1 wX) => row3 hw1 hX)
  have hs1 : w.heap.size < w1.heap.size := by rw [← hw1]; simp
  have hrd1 := Lib.hid (h.below hb1)
  have hb1 := Lib.hid hb1
  have hlen := Lib.hid (show ∃ A c, v = .slice A L.length c ∧ L.length ≤ c ∧ c ≤ maxLen from by obtain ⟨A, c, hv, q1, q2, _⟩ := h; exact ⟨A, c, hv, q1, q2⟩)
  clear h
  go_enter Try.func29, Try.ntmps29
  go_wp2_with fail
  have hw1 := Lib.hid hw1
  refine (acS_valid v L _ hrd1.out hf).mono ?_
  rintro e w2 ⟨rfl, hb2⟩
  have hk2 := Lib.hid hb2
  have hrd2 := Lib.hid (hrd1.out.below hb2)
  have hB2 := Lib.hid (below_trans' hb1.out hb2)
  clear hb2 hrd1
  rcases hF : acsB L with _ | _
  · have HR := Lib.hid (adA_out (a := ⟨name, feed, sign⟩) hF)
    have hown := Lib.hid (ownAc_none w2 w2.heap.size (Nat.le_refl _))
    clear hF
    go_wp2
    go_ret2
    exact ⟨_, by rw [HR.out]; rfl, by rw [HR.out]; exact OwnG.base hown.out hB2.out.size, hB2.out.alloc hB2.out.size _⟩
  · have h8 := (acsB_of hF).1
    have HF := Lib.hid hF
    have hll : ([] : List Ac).length + L.length ≤ 1073741824 := by simp; omega
    obtain ⟨A, cap, rfl, hcap, hcapm⟩ := hlen.out
    have hcapm := Lib.hid hcapm
    clear hF hlen
    by_cases hL : L = []
    · subst hL
      have hp0 : plc acL [] (⟨name, feed, sign⟩ : Ac) = 0 := rfl
      have HP := Lib.hid hp0
      have hll0 : ([] : List Ac).length + ([] : List Ac).length ≤ 1073741824 := by simp
      have hll1 : ([] : List Ac).length + [(⟨name, feed, sign⟩ : Ac)].length ≤ 1073741824 := by simp
      have hll2 : ([] ++ [(⟨name, feed, sign⟩ : Ac)]).length + ([] : List Ac).length ≤ 1073741824 := by simp
      have hcm := hcapm.out
      unfold maxLen at hcm
      have hd : decide ((0 : Int) < (([] : List Ac).length : Int)) = false := by simp
      go_wp2
      refine wp_loop_rounds 1 ?_
      rw [rounds_succ]
      go_upto_region 4 with fail
      go_quiet (fail)
      obtain ⟨wq, hwq⟩ : ∃ wq, w2.drewN nq = wq := ⟨_, rfl⟩
      have hBq : Hid (Below w2.heap.size w2 wq) := Lib.hid (by rw [← hwq]; exact below_drewN w2 nq)
      rw [hwq]
      clear hwq
      obtain ⟨y0, y1, y2⟩ := hrow.out wq (below_trans' hk2.out hBq.out)
      have hwbn : w.heap.size < wq.heap.size := Nat.lt_of_lt_of_le hs1 (below_trans' hk2.out hBq.out).size
      have hbn1 : ¬ (w.heap.size = wq.heap.size) := by omega
      have hbn2 : ¬ (w.heap.size = wq.heap.size + 1) := by omega
      go_upto_region 6 with fail
      go_cut [7] (fun s wx => ∃ (A9 : Option Addr) (c9 : Nat), s = .slice A9 (insG acL [] ⟨name, feed, sign⟩).length c9 ∧ Hid (OwnAc wx wq.heap.size (.slice A9 (insG acL [] ⟨name, feed, sign⟩).length c9) (insG acL [] ⟨name, feed, sign⟩)) ∧ Hid (Below wq.heap.size wq wx))
      case first =>
        rcases A with _ | ad
        all_goals
          by_cases hck : cap = 0
          · subst hck
            go_region_law (first
              | (refine stepAc rfl (.tmp 28) (.tmp 31) rfl wq.heap.size _ _ [] ([]) rfl (by first | exact own0_a wq _ (Nat.le_refl _) | exact own0_b wq _ (Nat.le_refl _) _ | exact own0_c wq _ (Nat.le_refl _) _) (by simp <;> omega) rfl (by first | exact (rdG_nil0 (enc := encAc) (w := wq) hcapm.out).below (belN_1 wq _) | exact (rdG_nil0 (enc := encAc) (w := wq) (by unfold maxLen; omega)).below (belN_1 wq _) | exact (rdG_nil0 (enc := encAc) (w := wq) hcapm.out).below (belN_2 wq _ _) | exact (rdG_nil0 (enc := encAc) (w := wq) (by unfold maxLen; omega)).below (belN_2 wq _ _)) hll0 ?_; intro v7 w7 hown7 hg7; rw [List.nil_append] at hown7; (first | (have hg7 : World.grownBy _ w7 (some wq.heap.size) := hg7) | (have hg7 : World.grownBy _ w7 (some (wq.heap.size + 1)) := hg7)); have hB7 : Hid (Below wq.heap.size wq w7) := Lib.hid (by first | exact (belN_1 wq _).grown hg7 (by simp) (fun q hq => by cases hq; omega) | exact (belN_2 wq _ _).grown hg7 (by simp <;> omega) (fun q hq => by cases hq; omega)); obtain ⟨e0, e1, e2⟩ := hrow.out w7 (below_trans' (below_trans' hk2.out hBq.out) hB7.out); (first | (have hL7 := rdG_kept (lit1_b encAc_len wq _ (⟨name, feed, sign⟩ : Ac) #[.string name, .string feed, .int .i64 sign] rfl 33) hg7 (by omega)) | (have hL7 := rdG_kept (lit1_c encAc_len wq _ (⟨name, feed, sign⟩ : Ac) #[.string name, .string feed, .int .i64 sign] rfl 33) hg7 (by omega)) | skip); clear hg7; have hown7 := Lib.hid hown7)
              | (refine stepAc rfl (.tmp 32) (.tmp 34) rfl wq.heap.size _ _ ([]) [(⟨name, feed, sign⟩ : Ac)] rfl (by first | exact hown7.out | exact OwnG.grown hown7.out ((Below.refl _ _).alloc (Nat.le_refl _) _)) (by first | exact hB7.out.size | exact Nat.le_trans hB7.out.size (by simp)) rfl (by first | exact hL7 | exact rdAc_lit1 w7 (⟨name, feed, sign⟩ : Ac) _) hll1 ?_; intro v8 w8 hown8 hg8; have hB8 : Hid (Below wq.heap.size wq w8) := Lib.hid (by first | exact own_below' hown7.out hB7.out hg8 | exact own_below' (OwnG.grown hown7.out ((Below.refl _ _).alloc (Nat.le_refl _) _)) (hB7.out.alloc hB7.out.size _) hg8); clear hg8; have hown8 := Lib.hid hown8)
              | (refine stepAc rfl (.tmp 35) (.tmp 38) rfl wq.heap.size _ _ ([] ++ [(⟨name, feed, sign⟩ : Ac)]) ([]) rfl hown8.out hB8.out.size rfl (by first | exact rdG_nil0 (by unfold maxLen; omega) | exact rdG_nil0 hcapm.out) hll2 ?_; intro v9 w9 hown9 hg9; have hB9 : Hid (Below wq.heap.size wq w9) := Lib.hid (own_below' hown8.out hB8.out hg9); have hown9 := Lib.hid hown9; clear hg9))
            all_goals
              have HR : Hid (OwnAc w9 wq.heap.size v9 (insG acL [] ⟨name, feed, sign⟩)) := Lib.hid (by have h9 := hown9.out; rw [List.append_assoc] at h9; exact h9)
              obtain ⟨A9, c9, hv9⟩ := OwnAc.shape HR.out
              subst hv9
              go_wp2_with fail
              go_meet
              exact ⟨A9, c9, rfl, HR, hB9⟩
          · have hck1 : ¬ (cap - 0 = 0) := by omega
            go_region_law (first
              | (refine stepAc rfl (.tmp 28) (.tmp 31) rfl wq.heap.size _ _ [] ([]) rfl (by first | exact own0_a wq _ (Nat.le_refl _) | exact own0_b wq _ (Nat.le_refl _) _ | exact own0_c wq _ (Nat.le_refl _) _) (by simp <;> omega) rfl (by first | exact (rdG_nil0 (enc := encAc) (w := wq) hcapm.out).below (belN_1 wq _) | exact (rdG_nil0 (enc := encAc) (w := wq) (by unfold maxLen; omega)).below (belN_1 wq _) | exact (rdG_nil0 (enc := encAc) (w := wq) hcapm.out).below (belN_2 wq _ _) | exact (rdG_nil0 (enc := encAc) (w := wq) (by unfold maxLen; omega)).below (belN_2 wq _ _)) hll0 ?_; intro v7 w7 hown7 hg7; rw [List.nil_append] at hown7; (first | (have hg7 : World.grownBy _ w7 (some wq.heap.size) := hg7) | (have hg7 : World.grownBy _ w7 (some (wq.heap.size + 1)) := hg7)); have hB7 : Hid (Below wq.heap.size wq w7) := Lib.hid (by first | exact (belN_1 wq _).grown hg7 (by simp) (fun q hq => by cases hq; omega) | exact (belN_2 wq _ _).grown hg7 (by simp <;> omega) (fun q hq => by cases hq; omega)); obtain ⟨e0, e1, e2⟩ := hrow.out w7 (below_trans' (below_trans' hk2.out hBq.out) hB7.out); (first | (have hL7 := rdG_kept (lit1_b encAc_len wq _ (⟨name, feed, sign⟩ : Ac) #[.string name, .string feed, .int .i64 sign] rfl 33) hg7 (by omega)) | (have hL7 := rdG_kept (lit1_c encAc_len wq _ (⟨name, feed, sign⟩ : Ac) #[.string name, .string feed, .int .i64 sign] rfl 33) hg7 (by omega)) | skip); clear hg7; have hown7 := Lib.hid hown7)
              | (refine stepAc rfl (.tmp 32) (.tmp 34) rfl wq.heap.size _ _ ([]) [(⟨name, feed, sign⟩ : Ac)] rfl (by first | exact hown7.out | exact OwnG.grown hown7.out ((Below.refl _ _).alloc (Nat.le_refl _) _)) (by first | exact hB7.out.size | exact Nat.le_trans hB7.out.size (by simp)) rfl (by first | exact hL7 | exact rdAc_lit1 w7 (⟨name, feed, sign⟩ : Ac) _) hll1 ?_; intro v8 w8 hown8 hg8; have hB8 : Hid (Below wq.heap.size wq w8) := Lib.hid (by first | exact own_below' hown7.out hB7.out hg8 | exact own_below' (OwnG.grown hown7.out ((Below.refl _ _).alloc (Nat.le_refl _) _)) (hB7.out.alloc hB7.out.size _) hg8); clear hg8; have hown8 := Lib.hid hown8)
              | (refine stepAc rfl (.tmp 35) (.tmp 38) rfl wq.heap.size _ _ ([] ++ [(⟨name, feed, sign⟩ : Ac)]) ([]) rfl hown8.out hB8.out.size rfl (by first | exact rdG_nil0 (by unfold maxLen; omega) | exact rdG_nil0 hcapm.out) hll2 ?_; intro v9 w9 hown9 hg9; have hB9 : Hid (Below wq.heap.size wq w9) := Lib.hid (own_below' hown8.out hB8.out hg9); have hown9 := Lib.hid hown9; clear hg9))
            all_goals
              have HR : Hid (OwnAc w9 wq.heap.size v9 (insG acL [] ⟨name, feed, sign⟩)) := Lib.hid (by have h9 := hown9.out; rw [List.append_assoc] at h9; exact h9)
              obtain ⟨A9, c9, hv9⟩ := OwnAc.shape HR.out
              subst hv9
              go_wp2_with fail
              go_meet
              exact ⟨A9, c9, rfl, HR, hB9⟩
      case rest =>
        obtain ⟨A9, c9, rfl, HR, hB9⟩ := hcut
        have hrd9 := Lib.hid (OwnG.rd HR.out)
        go_wp2_with fail
        refine (acS_valid _ (insG acL [] ⟨name, feed, sign⟩) _ hrd9.out (fitAcs_take hf _ hfa)).mono ?_
        rintro e w10 ⟨rfl, hb10⟩
        have HR10 := Lib.hid (OwnG.grown HR.out hb10)
        have hB10 := Lib.hid (below_trans' (below_trans' hBq.out hB9.out) hb10)
        have hB10w := Lib.hid (below_trans' (below_trans' hb1.out hk2.out) hB10.out)
        clear hb10
        rcases hF2 : acsB (insG acL [] ⟨name, feed, sign⟩) with _ | _
        · have HZ := Lib.hid (adA_no HF.out hF2)
          have hrdX := Lib.hid (hrd2.out.below hB10.out)
          clear hF2
          go_wp2_with (at_builtin; refine appsAc rfl (.tmp 43) (.tmp 44) rfl w10.heap.size _ _ [] [] rfl (own0_lit _ _ _ w10 w10.heap.size (Nat.le_refl _)) (by simp) rfl (hrdX.out.below ((Below.refl _ _).alloc (Nat.le_refl _) _)) hll ?_; intro v11 w11 hown11 hg11; rw [List.nil_append] at hown11; have hB11 := Lib.hid (below_trans' hB10w.out (((Below.refl _ _).alloc (Nat.le_refl _) _).grown hg11 (by simp) (fun q hq => by cases hq; exact Nat.le_refl _))); have hown11 := Lib.hid hown11; clear hg11)
          go_ret2
          exact ⟨_, by rw [HZ.out]; rfl, by rw [HZ.out]; exact OwnG.base hown11.out hB10w.out.size, hB11.out⟩
        · have HZ := Lib.hid (adA_yes HF.out hF2)
          clear hF2
          go_wp2
          go_ret2
          exact ⟨_, by rw [HZ.out]; rfl, by rw [HZ.out]; exact OwnG.base HR10.out (Nat.le_trans (below_trans' hb1.out hk2.out).size hBq.out.size), hB10w.out⟩
    · obtain ⟨b, o, c', hv, _, _, hb, h4⟩ := hrd2.out.some hL
      obtain ⟨rfl, rfl⟩ : A = some ⟨b, o, none⟩ ∧ cap = c' := by simpa using hv
      have hcells := Lib.hid (fun k (hk : k < L.length) => rdAc_cells h4 hk)
      have hpl0 := plc_le acL L ⟨name, feed, sign⟩
      clear h4 hv hL
      go_wp2
      go_loopw [6] (fun i wr => ∃ p : Nat, p ≤ plc acL L ⟨name, feed, sign⟩ ∧ i = .int .i64 p ∧ Hid (Below w2.heap.size w2 wr)) (fun i _ => L.length - (intOf i).toNat)
      case atStart => exact ⟨0, Nat.zero_le _, rfl, Lib.hid (Below.refl _ _)⟩
      case round =>
        obtain ⟨p, hp, rfl, hbr⟩ := hrel
        have hj0 : (0 : Int) ≤ (p : Int) := by omega
        go_upto_region 4 with fail
        go_cut [25] (fun s wx => s = .bool (decide (p < plc acL L ⟨name, feed, sign⟩)) ∧ Hid (Below w2.heap.size w2 wx))
        case first =>
          by_cases hlt : p < L.length
          · obtain ⟨d0, d1, d2⟩ := rdAc_at hcells.out hb hbr.out hlt
            obtain ⟨y0, y1, y2⟩ := hrow.out _ (below_trans' hk2.out hbr.out)
            have hjj : (p : Int) < (L.length : Int) := by omega
            have HD : Hid (decide (p < plc acL L ⟨name, feed, sign⟩) = acL L[p] ⟨name, feed, sign⟩) := Lib.hid (by
              by_cases q : p < plc acL L ⟨name, feed, sign⟩
              · rw [plc_lt q]; exact decide_eq_true q
              · have e : p = plc acL L ⟨name, feed, sign⟩ := by omega
                have := plc_ge (lt := acL) (L := L) (a := ⟨name, feed, sign⟩) (by omega)
                rw [decide_eq_false q]; subst e; exact this.symm)
            obtain ⟨x, hx⟩ : ∃ x, L[p] = x := ⟨_, rfl⟩
            obtain ⟨xn, xf, xs⟩ := x
            rw [hx] at d0 d1 d2 HD
            simp only at d0 d1 d2
            have HL : Hid (acL ⟨xn, xf, xs⟩ ⟨name, feed, sign⟩ = Op.bytesLess xn.toList name.toList) := Lib.hid (by unfold acL; rw [ByteArray.toList_eq, ByteArray.toList_eq])
            clear hx
            go_quiet (fail)
            go_wp2
            go_meet
            exact ⟨by rw [HD.out, HL.out], Lib.hid (Below.drawn hbr.out _)⟩
          · have hd : decide ((p : Int) < (L.length : Int)) = false := decide_eq_false (by omega)
            have HD : Hid (decide (p < plc acL L ⟨name, feed, sign⟩) = false) := Lib.hid (decide_eq_false (by omega))
            go_quiet (fail)
            go_wp2
            go_meet
            exact ⟨by rw [HD.out], Lib.hid (Below.drawn hbr.out _)⟩
        case rest =>
          obtain ⟨hs, hBc⟩ := hcut
          by_cases q : p < plc acL L ⟨name, feed, sign⟩
          · have hd : decide (p < plc acL L ⟨name, feed, sign⟩) = true := decide_eq_true q
            rw [hd] at hs
            subst hs
            go_wp2
            go_roundw
            case rel => exact ⟨p + 1, by omega, by go_num, hBc⟩
            case measure => simp [intOf]; omega
          · have hd : decide (p < plc acL L ⟨name, feed, sign⟩) = false := decide_eq_false q
            rw [hd] at hs
            subst hs
            have HP : Hid (plc acL L ⟨name, feed, sign⟩ = p) := Lib.hid (by omega)
            have hpl : p ≤ L.length := by omega
            clear hd q hp hpl0
            obtain ⟨wq, hwq⟩ : ∃ wq, wq = wc := ⟨_, rfl⟩
            rw [← hwq] at hBc ⊢
            clear hwq
            have hBq := Lib.hid hBc.out
            have hrdq := Lib.hid (hrd2.out.below hBc.out)
            obtain ⟨y0, y1, y2⟩ := hrow.out wq (below_trans' hk2.out hBc.out)
            have hwbn : w.heap.size < wq.heap.size := Nat.lt_of_lt_of_le hs1 (below_trans' hk2.out hBc.out).size
            have hbn1 : ¬ (w.heap.size = wq.heap.size) := by omega
            have hbn2 : ¬ (w.heap.size = wq.heap.size + 1) := by omega
            have hll0 : ([] : List Ac).length + (L.take p).length ≤ 1073741824 := by simp; omega
            have hll1 : (L.take p).length + [(⟨name, feed, sign⟩ : Ac)].length ≤ 1073741824 := by simp; omega
            have hll2 : (L.take p ++ [(⟨name, feed, sign⟩ : Ac)]).length + (L.drop p).length ≤ 1073741824 := by simp; omega
            have hkc : p ≤ cap := by omega
            have hpc : (p : Int) ≤ (cap : Int) := by omega
            have hpl' : (p : Int) ≤ (L.length : Int) := by omega
            have hcm := hcapm.out
            unfold maxLen at hcm
            go_upto_region 6 with fail
            go_cut [7] (fun s wx => ∃ (A9 : Option Addr) (c9 : Nat), s = .slice A9 (insG acL L ⟨name, feed, sign⟩).length c9 ∧ Hid (OwnAc wx wq.heap.size (.slice A9 (insG acL L ⟨name, feed, sign⟩).length c9) (insG acL L ⟨name, feed, sign⟩)) ∧ Hid (Below wq.heap.size wq wx))
            case first =>
              by_cases hck : cap = p
              · obtain rfl : p = L.length := by omega
                subst hck
                go_region_law (first
                  | (refine stepAc rfl (.tmp 28) (.tmp 31) rfl wq.heap.size _ _ [] (L.take L.length) rfl (by first | exact own0_a wq _ (Nat.le_refl _) | exact own0_b wq _ (Nat.le_refl _) _ | exact own0_c wq _ (Nat.le_refl _) _) (by simp <;> omega) rfl (by first | exact (rdG_take encAc_len hrdq.out L.length hpl L.length hkc hcapm.out).below (belN_1 wq _) | exact (rdG_take encAc_len hrdq.out L.length hpl L.length hkc hcapm.out).below (belN_2 wq _ _)) hll0 ?_; intro v7 w7 hown7 hg7; rw [List.nil_append] at hown7; (first | (have hg7 : World.grownBy _ w7 (some wq.heap.size) := hg7) | (have hg7 : World.grownBy _ w7 (some (wq.heap.size + 1)) := hg7)); have hB7 : Hid (Below wq.heap.size wq w7) := Lib.hid (by first | exact (belN_1 wq _).grown hg7 (by simp) (fun q hq => by cases hq; omega) | exact (belN_2 wq _ _).grown hg7 (by simp <;> omega) (fun q hq => by cases hq; omega)); obtain ⟨e0, e1, e2⟩ := hrow.out w7 (below_trans' (below_trans' hk2.out hBq.out) hB7.out); (first | (have hL7 := rdG_kept (lit1_b encAc_len wq _ (⟨name, feed, sign⟩ : Ac) #[.string name, .string feed, .int .i64 sign] rfl 33) hg7 (by omega)) | (have hL7 := rdG_kept (lit1_c encAc_len wq _ (⟨name, feed, sign⟩ : Ac) #[.string name, .string feed, .int .i64 sign] rfl 33) hg7 (by omega)) | skip); clear hg7; have hown7 := Lib.hid hown7)
                  | (refine stepAc rfl (.tmp 32) (.tmp 34) rfl wq.heap.size _ _ (L.take L.length) [(⟨name, feed, sign⟩ : Ac)] rfl (by first | exact hown7.out | exact OwnG.grown hown7.out ((Below.refl _ _).alloc (Nat.le_refl _) _)) (by first | exact hB7.out.size | exact Nat.le_trans hB7.out.size (by simp)) rfl (by first | exact hL7 | exact rdAc_lit1 w7 (⟨name, feed, sign⟩ : Ac) _) hll1 ?_; intro v8 w8 hown8 hg8; have hB8 : Hid (Below wq.heap.size wq w8) := Lib.hid (by first | exact own_below' hown7.out hB7.out hg8 | exact own_below' (OwnG.grown hown7.out ((Below.refl _ _).alloc (Nat.le_refl _) _)) (hB7.out.alloc hB7.out.size _) hg8); clear hg8; have hown8 := Lib.hid hown8)
                  | (refine stepAc rfl (.tmp 35) (.tmp 38) rfl wq.heap.size _ _ (L.take L.length ++ [(⟨name, feed, sign⟩ : Ac)]) (L.drop L.length) rfl hown8.out hB8.out.size rfl (by first | exact rdG_restA encAc_len (hrdq.out.below hB8.out) L.length hpl _ _ _ (by first | exact fun _ => rfl | (intro q; omega) | (intro q; simp)) (by omega) (by omega) (by omega)) hll2 ?_; intro v9 w9 hown9 hg9; have hB9 : Hid (Below wq.heap.size wq w9) := Lib.hid (own_below' hown8.out hB8.out hg9); have hown9 := Lib.hid hown9; clear hg9))
                all_goals
                  have HR : Hid (OwnAc w9 wq.heap.size v9 (insG acL L ⟨name, feed, sign⟩)) := Lib.hid (by have h9 := hown9.out; rw [List.append_assoc] at h9; unfold insG; rw [HP.out]; exact h9)
                  obtain ⟨A9, c9, hv9⟩ := OwnAc.shape HR.out
                  subst hv9
                  go_wp2_with fail
                  go_meet
                  exact ⟨A9, c9, rfl, HR, hB9⟩
              · have hck1 : ¬ (cap - p = 0) := by omega
                have hck2 : p < cap := by omega
                go_region_law (first
                  | (refine stepAc rfl (.tmp 28) (.tmp 31) rfl wq.heap.size _ _ [] (L.take p) rfl (by first | exact own0_a wq _ (Nat.le_refl _) | exact own0_b wq _ (Nat.le_refl _) _ | exact own0_c wq _ (Nat.le_refl _) _) (by simp <;> omega) rfl (by first | exact (rdG_take encAc_len hrdq.out p hpl cap hkc hcapm.out).below (belN_1 wq _) | exact (rdG_take encAc_len hrdq.out p hpl cap hkc hcapm.out).below (belN_2 wq _ _)) hll0 ?_; intro v7 w7 hown7 hg7; rw [List.nil_append] at hown7; (first | (have hg7 : World.grownBy _ w7 (some wq.heap.size) := hg7) | (have hg7 : World.grownBy _ w7 (some (wq.heap.size + 1)) := hg7)); have hB7 : Hid (Below wq.heap.size wq w7) := Lib.hid (by first | exact (belN_1 wq _).grown hg7 (by simp) (fun q hq => by cases hq; omega) | exact (belN_2 wq _ _).grown hg7 (by simp <;> omega) (fun q hq => by cases hq; omega)); obtain ⟨e0, e1, e2⟩ := hrow.out w7 (below_trans' (below_trans' hk2.out hBq.out) hB7.out); (first | (have hL7 := rdG_kept (lit1_b encAc_len wq _ (⟨name, feed, sign⟩ : Ac) #[.string name, .string feed, .int .i64 sign] rfl 33) hg7 (by omega)) | (have hL7 := rdG_kept (lit1_c encAc_len wq _ (⟨name, feed, sign⟩ : Ac) #[.string name, .string feed, .int .i64 sign] rfl 33) hg7 (by omega)) | skip); clear hg7; have hown7 := Lib.hid hown7)
                  | (refine stepAc rfl (.tmp 32) (.tmp 34) rfl wq.heap.size _ _ (L.take p) [(⟨name, feed, sign⟩ : Ac)] rfl (by first | exact hown7.out | exact OwnG.grown hown7.out ((Below.refl _ _).alloc (Nat.le_refl _) _)) (by first | exact hB7.out.size | exact Nat.le_trans hB7.out.size (by simp)) rfl (by first | exact hL7 | exact rdAc_lit1 w7 (⟨name, feed, sign⟩ : Ac) _) hll1 ?_; intro v8 w8 hown8 hg8; have hB8 : Hid (Below wq.heap.size wq w8) := Lib.hid (by first | exact own_below' hown7.out hB7.out hg8 | exact own_below' (OwnG.grown hown7.out ((Below.refl _ _).alloc (Nat.le_refl _) _)) (hB7.out.alloc hB7.out.size _) hg8); clear hg8; have hown8 := Lib.hid hown8)
                  | (refine stepAc rfl (.tmp 35) (.tmp 38) rfl wq.heap.size _ _ (L.take p ++ [(⟨name, feed, sign⟩ : Ac)]) (L.drop p) rfl hown8.out hB8.out.size rfl (by first | exact rdG_restA encAc_len (hrdq.out.below hB8.out) p hpl _ _ _ (by first | exact fun _ => rfl | (intro q; omega) | (intro q; simp)) (by omega) (by omega) (by omega)) hll2 ?_; intro v9 w9 hown9 hg9; have hB9 : Hid (Below wq.heap.size wq w9) := Lib.hid (own_below' hown8.out hB8.out hg9); have hown9 := Lib.hid hown9; clear hg9))
                all_goals
                  have HR : Hid (OwnAc w9 wq.heap.size v9 (insG acL L ⟨name, feed, sign⟩)) := Lib.hid (by have h9 := hown9.out; rw [List.append_assoc] at h9; unfold insG; rw [HP.out]; exact h9)
                  obtain ⟨A9, c9, hv9⟩ := OwnAc.shape HR.out
                  subst hv9
                  go_wp2_with fail
                  go_meet
                  exact ⟨A9, c9, rfl, HR, hB9⟩
            case rest =>
              obtain ⟨A9, c9, rfl, HR, hB9⟩ := hcut
              have hrd9 := Lib.hid (OwnG.rd HR.out)
              go_wp2_with fail
              refine (acS_valid _ (insG acL L ⟨name, feed, sign⟩) _ hrd9.out (fitAcs_take hf _ hfa)).mono ?_
              rintro e w10 ⟨rfl, hb10⟩
              have HR10 := Lib.hid (OwnG.grown HR.out hb10)
              have hB10 := Lib.hid (below_trans' (below_trans' hBq.out hB9.out) hb10)
              have hB10w := Lib.hid (below_trans' (below_trans' hb1.out hk2.out) hB10.out)
              clear hb10
              rcases hF2 : acsB (insG acL L ⟨name, feed, sign⟩) with _ | _
              · have HZ := Lib.hid (adA_no HF.out hF2)
                have hrdX := Lib.hid (hrd2.out.below hB10.out)
                clear hF2
                go_wp2_with (at_builtin; refine appsAc rfl (.tmp 43) (.tmp 44) rfl w10.heap.size _ _ [] L rfl (own0_lit _ _ _ w10 w10.heap.size (Nat.le_refl _)) (by simp) rfl (hrdX.out.below ((Below.refl _ _).alloc (Nat.le_refl _) _)) hll ?_; intro v11 w11 hown11 hg11; rw [List.nil_append] at hown11; have hB11 := Lib.hid (below_trans' hB10w.out (((Below.refl _ _).alloc (Nat.le_refl _) _).grown hg11 (by simp) (fun q hq => by cases hq; exact Nat.le_refl _))); have hown11 := Lib.hid hown11; clear hg11)
                go_ret2
                exact ⟨_, by rw [HZ.out]; rfl, by rw [HZ.out]; exact OwnG.base hown11.out hB10w.out.size, hB11.out⟩
              · have HZ := Lib.hid (adA_yes HF.out hF2)
                clear hF2
                go_wp2
                go_ret2
                exact ⟨_, by rw [HZ.out]; rfl, by rw [HZ.out]; exact OwnG.base HR10.out (Nat.le_trans (below_trans' hb1.out hk2.out).size hBq.out.size), hB10w.out⟩
theorem nfA_out {L : List Ac} {w : ByteArray} (h : acsB L = false ∨ wordB w.data.toList = false) : nfA L w = ⟨#[]⟩ := by
  unfold nfA; rcases h with h | h <;> simp [h]
theorem nfA_word {L : List Ac} {w : ByteArray} (h : acsB L = true) (k : wordB w.data.toList = true) (n : acN L w < 0) : nfA L w = w := by
  unfold nfA; simp [h, k, n]
theorem nfA_dig {L : List Ac} {w : ByteArray} (h : acsB L = true) (k : wordB w.data.toList = true) (n : ¬ acN L w < 0) : nfA L w = nfD L w 8 50 := by
  unfold nfA; simp [h, k, n]
theorem nfD_yes {L : List Ac} {w : ByteArray} {f d : Nat} (h : acN L (digA w d) < 0) : nfD L w (f + 1) d = digA w d := by simp [nfD, h]
theorem nfD_no {L : List Ac} {w : ByteArray} {f d : Nat} (h : ¬ acN L (digA w d) < 0) : nfD L w (f + 1) d = nfD L w f (d + 1) := by simp [nfD, h]
theorem cutA_size (w : ByteArray) (h : w.size ≤ 8) : (cutA w).size ≤ 7 := by unfold cutA; rw [ByteArray.size_extract]; omega
def GotBA (s : ByteArray) (w : World) (e : Ending) (w' : World) : Prop := e = .returned (.string s) ∧ Below w.heap.size w w'
set_option maxRecDepth 100000 in
set_option maxHeartbeats 4000000 in
theorem acS_for (v : Value) (L : List Ac) (word : ByteArray) (w : World) (h : RdG encAc w v L) (hf : FitAcs L) (hw : word.size ≤ 100000000) :
    Calls Try.prog 33 #[v, .string word] w (GotBA (nfA L word) w) := by
  have hwm := fit_max hw
  have hrd := Lib.hid h
  clear h
  go_enter Try.func33, Try.ntmps33
  go_wp2_with fail
  refine (acS_valid v L _ hrd.out hf).mono ?_
  rintro e w2 ⟨rfl, hb2⟩
  have hB2 := Lib.hid hb2
  have hrd2 := Lib.hid (hrd.out.below hb2)
  clear hb2
  rcases hF : acsB L with _ | _
  · have HR := Lib.hid (nfA_out (w := word) (.inl hF))
    clear hF
    go_wp2
    go_ret
    exact ⟨by rw [HR.out]; rfl, hB2.out⟩
  · rcases hW : wordB word.data.toList with _ | _
    · have HR := Lib.hid (nfA_out (L := L) (.inr hW))
      have HW := Lib.hid hW
      clear hF hW
      go_wp2_with (go_at_call 52; refine (sword_any word _ hwm).mono ?_; rintro e w' ⟨rfl, rfl⟩; rw [HW.out])
      go_ret
      exact ⟨by rw [HR.out]; rfl, hB2.out⟩
    · have HW := Lib.hid hW
      have hw8 := (word_len hW).2
      rw [blen] at hw8
      obtain ⟨A, cap, rfl⟩ : ∃ A cap, v = .slice A L.length cap := by obtain ⟨A, c, hv, _⟩ := hrd2.out; exact ⟨A, c, hv⟩
      go_wp2_with (first | (go_at_call 52; refine (sword_any word _ hwm).mono ?_; rintro e w' ⟨rfl, rfl⟩; rw [HW.out]) | fail)
      refine (acS_named _ L word _ hrd2.out hf).mono ?_
      rintro e w3 ⟨rfl, hb3⟩
      have hB3 := Lib.hid (below_trans' hB2.out hb3)
      have hrd3 := Lib.hid (hrd2.out.below hb3)
      clear hb3
      by_cases hn : acN L word < 0
      · have HR := Lib.hid (nfA_word hF hW hn)
        go_wp2
        go_ret
        exact ⟨by rw [HR.out]; rfl, hB3.out⟩
      · have HR := Lib.hid (nfA_dig hF hW hn)
        clear hF hW
        go_wp2
        go_loopw [5, 6] (fun i s wr => ∃ d : Nat, 50 ≤ d ∧ d ≤ 58 ∧ i = .int .u8 d ∧ Hid (nfA L word = nfD L word (58 - d) d) ∧ Hid (Below w.heap.size w wr)) (fun i _ _ => 58 - (intOf i).toNat)
        case atStart => exact ⟨50, by omega, by omega, rfl, HR, hB3⟩
        case round =>
          obtain ⟨d, d0, d1, rfl, hat, hbr⟩ := hrel
          by_cases hlt : d < 58
          · have hdd : (d : Int) ≤ 57 := by omega
            have hu : (UInt8.ofNat d).toNat = d := by rw [UInt8.toNat_ofNat']; omega
            have hcv : ∀ w' : World, (convert 22 9 (.slice (some ⟨w'.heap.size, 0, none⟩) 1 1)).run Try.prog (w'.alloc (.cells #[.int .u8 (d : Int)] 5)) = .ok (.string (bs [UInt8.ofNat d])) (w'.alloc (.cells #[.int .u8 (d : Int)] 5)) := fun w' => by
              have := conv1 w' (UInt8.ofNat d); rw [hu] at this; exact this
            have hcv2 : (convert 22 9 (.slice (some ⟨wr.heap.size, 0, none⟩) 1 1)).run Try.prog (wr.alloc (.cells #[.int .u8 (d : Int)] 5)).drew = .ok (.string (bs [UInt8.ofNat d])) (wr.alloc (.cells #[.int .u8 (d : Int)] 5)).drew := hcv wr.drew
            obtain ⟨m, hm⟩ : ∃ m, min word.size 7 = m := ⟨_, rfl⟩
            have hm1 : min (word.size : Int) 7 = (m : Int) := by omega
            have hm2 : m ≤ word.size := by omega
            have hm3 : (m : Int) ≤ (word.size : Int) := by omega
            have hm4 : m ≤ 7 := by omega
            have hz : (bs [UInt8.ofNat d]).size = 1 := by rw [bs_size]; rfl
            have hcut : Hid (word.extract 0 m ++ bs [UInt8.ofNat d] = digA word d) := Lib.hid (by unfold digA cutA; rw [hm]; rfl)
            have hsum : (word.extract 0 m).size + (bs [UInt8.ofNat d]).size ≤ 9223372036854775807 := by rw [hz, ByteArray.size_extract]; omega
            have hsz : (digA word d).size ≤ 100000000 := by unfold digA; rw [ByteArray.size_append]; have := cutA_size word hw8; have : (⟨#[UInt8.ofNat d]⟩ : ByteArray).size = 1 := rfl; omega
            clear hm hz hu
            go_wp2
            go_region
            rw [hcut.out]
            obtain ⟨wq, hwq⟩ : ∃ wq, (wr.alloc (.cells #[.int .u8 (d : Int)] 5)).drew = wq := ⟨_, rfl⟩
            have hbq : Below wr.heap.size wr wq := by rw [← hwq]; exact Below.drew ((Below.refl _ _).alloc (Nat.le_refl _) _)
            have hBq := Lib.hid (below_trans' hbr.out hbq)
            rw [hwq]
            clear hwq hbq hcv hcv2
            have HX : Hid (nfA L word = nfD L word (57 - d + 1) d) := Lib.hid (by rw [hat.out]; congr 1; omega)
            go_wp2_with fail
            refine (acS_named _ L (digA word d) _ (hrd.out.below hBq.out) hf).mono ?_
            rintro e w5 ⟨rfl, hb5⟩
            have hB5 := Lib.hid (below_trans' hBq.out hb5)
            clear hb5
            by_cases hn2 : acN L (digA word d) < 0
            · have HE := Lib.hid (HX.out.trans (nfD_yes hn2))
              go_wp2
              go_ret
              exact ⟨by rw [HE.out]; rfl, hB5.out⟩
            · have HE : Hid (nfA L word = nfD L word (58 - (d + 1)) (d + 1)) := Lib.hid (by rw [HX.out, nfD_no hn2]; congr 1; omega)
              go_wp2
              go_roundw
              case rel => exact ⟨d + 1, by omega, by omega, by go_num, HE, hB5⟩
              case measure => simp [intOf]; omega
          · obtain rfl : d = 58 := by omega
            have HE : Hid (nfA L word = ⟨#[]⟩) := Lib.hid hat.out
            go_wp2
            go_ret
            exact ⟨by rw [HE.out]; rfl, hbr.out⟩
end Go.Proofs.Ytacapigdfabiiaa
