/-
  The verifier's own text: ActI2.
-/
import Derived.Test.YtacapigdfabiiaaRows
import Derived.Test.YtacapigdfabiiaaActI1
import Derived.Test.YtacapigdfabiiaaHC
import Derived.Test.YtacapigdfabiiaaHD
import Derived.Laws.Cover1
import Derived.WalkKit
import Derived.ProofKit
import Derived.Below
import Derived.Lib.Hide
import Derived.Outline
import Derived.BigQuiet
import Derived.Deep.QuietTactic
import Derived.Deep.Draws
import Derived.Laws.OwnMore
import Derived.Laws.Rows
import Derived.WalkSpells
import Derived.Deep.RegionWith
namespace Go.Proofs.Ytacapigdfabiiaa
open Go.RowKit
set_option linter.unusedVariables false
theorem acL_name {x y z : Ac} (h : y.name = z.name) : acL x y = acL x z := by unfold acL; rw [h]
/-- where the name belongs, there it is or nowhere -/
theorem acN_is {L : List Ac} {n f : ByteArray} {s : Int} (h : acsB L = true) (hp : plc acL L ⟨n, f, s⟩ < L.length) (e : (L[plc acL L ⟨n, f, s⟩]).name = n) : acN L n = (plc acL L ⟨n, f, s⟩ : Nat) := by
  rw [acN_in h, acAt_is (q := 0) hp (fun j hj => name_of_lt (b := ⟨n, f, s⟩) (plc_lt hj)) e, Nat.zero_add]
theorem acN_no {L : List Ac} {n f : ByteArray} {s : Int} (h : acsB L = true) (e : ∀ hp : plc acL L ⟨n, f, s⟩ < L.length, (L[plc acL L ⟨n, f, s⟩]).name ≠ n) : acN L n = -1 := by
  rw [acN_in h]
  refine acAt_none fun a m q => ?_
  obtain ⟨j, hj, rfl⟩ := List.getElem_of_mem m
  by_cases h1 : j < plc acL L ⟨n, f, s⟩
  · exact name_of_lt (b := ⟨n, f, s⟩) (plc_lt h1) q
  · have hp : plc acL L ⟨n, f, s⟩ < L.length := by omega
    by_cases h2 : plc acL L ⟨n, f, s⟩ = j
    · subst h2; exact e hp q
    · have h3 := asc_get (acsB_of h).2.2.1 (j := plc acL L ⟨n, f, s⟩) (k := j) (by omega) hj
      have h4 := plc_ge (lt := acL) (L := L) (a := ⟨n, f, s⟩) hp
      rw [acL_name (z := ⟨n, f, s⟩) q, h4] at h3
      cases h3
set_option maxRecDepth 100000 in
set_option maxHeartbeats 2000000 in
theorem acI_named (v : Value) (L : List Ac) (n : ByteArray) (w : World) (h : RdG encAc w v L) (hf : FitAcs L) :
    Calls Try.prog 25 #[v, .string n] w (GotInt (acN L n) w) := by
  have hrd := Lib.hid h
  clear h
  go_enter Try.func25, Try.ntmps25
  go_wp2_with fail
  refine (acI_valid v L _ hrd.out hf).mono ?_
  rintro e w2 ⟨rfl, hb2⟩
  have hB2 := Lib.hid hb2
  have hrd2 := Lib.hid (hrd.out.below hb2)
  clear hb2
  rcases hF : acsB L with _ | _
  · have HR := Lib.hid (acN_out (n := n) hF)
    clear hF
    go_wp2
    go_ret
    exact ⟨by rw [HR.out]; rfl, hB2.out⟩
  · have HF := Lib.hid hF
    clear hF
    go_wp2_with fail
    refine (acI_place v L n ⟨#[]⟩ 0 _ hrd2.out).mono ?_
    rintro e w3 ⟨rfl, hb3⟩
    have hB3 := Lib.hid (below_trans' hB2.out hb3)
    have hrd3 := Lib.hid (hrd2.out.below hb3)
    clear hb3
    have hpl := plc_le acL L (⟨n, ⟨#[]⟩, 0⟩ : Ac)
    have HY := Lib.hid (fun hp e => acN_is (L := L) (n := n) (f := ⟨#[]⟩) (s := 0) HF.out hp e)
    have HN := Lib.hid (fun e => acN_no (L := L) (n := n) (f := ⟨#[]⟩) (s := 0) HF.out e)
    by_cases hlt : plc acL L (⟨n, ⟨#[]⟩, 0⟩ : Ac) < L.length
    · obtain ⟨b, o, c, rfl, h1, h2, hb, h4⟩ := hrd3.out.some (by intro e; rw [e] at hlt; simp at hlt)
      unfold maxLen at h2
      obtain ⟨d0, d1, d2⟩ := rdAc_cells h4 hlt
      obtain ⟨p, hp⟩ : ∃ p, plc acL L (⟨n, ⟨#[]⟩, 0⟩ : Ac) = p := ⟨_, rfl⟩
      have HY := HY.out
      have HN := HN.out
      simp only [hp] at hlt d0 d1 d2 HY HN ⊢
      have HY := HY hlt
      have HN := fun q : L[p].name ≠ n => HN (fun _ => q)
      obtain ⟨x, hx⟩ : ∃ x, L[p] = x := ⟨_, rfl⟩
      obtain ⟨xn, xf, xs⟩ := x
      rw [hx] at d0 d1 d2 HY HN
      simp only at d0 d1 d2 HY HN
      have g0 : ((p : Int) == (L.length : Int)) = false := by rw [beq_eq_false_iff_ne]; omega
      have g1 : (p : Int) < (L.length : Int) := by omega
      have g2 : (0 : Int) ≤ (p : Int) := by omega
      have g3 : ¬ ((p : Int) = (L.length : Int)) := by omega
      clear hx h4 hpl
      by_cases hn : xn = n
      · have HR := Lib.hid (HY hn)
        have q := str_same hn
        clear hn HY HN
        go_wp2
        go_ret
        exact ⟨by rw [HR.out]; rfl, hB3.out⟩
      · have HR := Lib.hid (HN hn)
        have q := str_other hn
        clear hn HY HN
        go_wp2
        go_ret
        exact ⟨by rw [HR.out]; rfl, hB3.out⟩
    · obtain ⟨A, c, rfl, h1, h2, _⟩ := hrd3.out
      unfold maxLen at h2
      have e : plc acL L (⟨n, ⟨#[]⟩, 0⟩ : Ac) = L.length := by omega
      have HR := Lib.hid (HN.out (fun hp => absurd hp hlt))
      have q : ((L.length : Int) == (L.length : Int)) = true := by simp
      rw [e]
      clear HY HN hlt hpl e
      go_wp2
      go_ret
      exact ⟨by rw [HR.out]; rfl, hB3.out⟩
set_option maxRecDepth 100000 in
set_option maxHeartbeats 4000000 in
theorem acI_with (v : Value) (L : List Ac) (name feed : ByteArray) (sign : Int) (w : World) (h : RdG encAc w v L) (h8 : L.length ≤ 1000) :
    Calls Try.prog 56 #[v, .agg #[.string name, .string feed, .int .i64 sign]] w (GotOwnAc (insG acL L ⟨name, feed, sign⟩) w) := by
  obtain ⟨w1, hw1⟩ : ∃ w1, w.alloc (.cells #[.string name, .string feed, .int .i64 sign] 33) = w1 := ⟨_, rfl⟩
  have hb1 : Hid (Below w.heap.size w w1) := Lib.hid (by rw [← hw1]; exact (Below.refl _ _).alloc (Nat.le_refl _) _)
  have hrow := Lib.hid (fun wX (hX : Below w1.heap.size w1 wX) => row3 hw1 hX)
  have hrd1 := Lib.hid (h.below hb1.out)
  obtain ⟨y0, y1, y2⟩ := hrow.out w1 (Below.refl _ _)
  clear h
  go_enter Try.func56, Try.ntmps56
  go_wp2_with fail
  have hw1 := Lib.hid hw1
  refine (acI_place v L name feed sign _ hrd1.out).mono ?_
  rintro e wc ⟨rfl, hbc⟩
  have hBc := Lib.hid hbc
  have hsc := hbc.size
  have hrdc := Lib.hid (hrd1.out.below hbc)
  clear hbc y0 y1 y2
  have hk := plc_le acL L ⟨name, feed, sign⟩
  have hFF : Hid (insG acL L ⟨name, feed, sign⟩ = L.take (plc acL L ⟨name, feed, sign⟩) ++ ⟨name, feed, sign⟩ :: L.drop (plc acL L ⟨name, feed, sign⟩)) := Lib.hid rfl
  obtain ⟨k, hkk⟩ : ∃ k, plc acL L ⟨name, feed, sign⟩ = k := ⟨_, rfl⟩
  rw [hkk] at hk hFF ⊢
  clear hkk
  have hj0 : (0 : Int) ≤ (k : Int) := by omega
  have hjl : (k : Int) ≤ (L.length : Int) := by omega
  have hll0 : ([] : List Ac).length + (L.take k).length ≤ 1073741824 := by simp; omega
  have hll1 : (L.take k).length ≤ 1073741824 := by simp; omega
  have hll2 : (L.take k ++ [(⟨name, feed, sign⟩ : Ac)]).length + (L.drop k).length ≤ 1073741824 := by simp; omega
  have i1 := IntWalk.i64_in ((L.length : Int) + 1) (by omega)
  by_cases hL : L = []
  · subst hL
    obtain rfl : k = 0 := by simpa using hk
    obtain ⟨A, c, rfl, hc⟩ := hrdc.out.nil
    have hc' := Lib.hid hc
    unfold maxLen at hc
    have hr0 : Hid (∀ (wz : World) (A' : Option Addr) (c' : Nat), c' ≤ c → RdG encAc wz (.slice A' 0 c') ([] : List Ac)) := Lib.hid (fun wz A' c' q => rdG_nil0 (by have := hc'.out; unfold maxLen at this ⊢; omega))
    rcases A with _ | ad <;> rcases Nat.eq_zero_or_pos c with hc0 | hc0
    all_goals
      (try subst hc0)
      go_wp2_with (first
        | (at_make; refine mkAc rfl _ _ rfl 1 rfl rfl (by omega) ?_; intro w4 hown4 hb4; have hB4 : Hid (Below w1.heap.size w1 w4) := Lib.hid (below_trans' hBc.out hb4); have hown4 := Lib.hid (OwnG.base hown4 hsc); clear hb4)
        | (at_builtin; refine appsAc rfl (.tmp 15) (.tmp 18) rfl w1.heap.size _ _ ([] : List Ac) ([] : List Ac) rfl hown4.out hB4.out.size rfl (hr0.out _ _ _ (by omega)) (by simp) ?_; intro v5 w5 hown5 hg5; rw [List.append_nil] at hown5; have hB5 := Lib.hid (own_below' hown4.out hB4.out hg5); have hown5 := Lib.hid hown5; obtain ⟨f0, f1, f2⟩ := hrow.out _ hB5.out; clear hg5)
        | (at_builtin; refine appAc rfl (.tmp 20) (.tmp 22) rfl w1.heap.size _ ([] : List Ac) name feed sign rfl hown5.out hB5.out.size _ rfl rfl (by simp) ?_; intro v6 w6 hown6 hg6; rw [List.nil_append] at hown6; have hB6 := Lib.hid (own_below' hown5.out hB5.out hg6); have hown6 := Lib.hid hown6; clear hg6)
        | (at_builtin; refine appsAc rfl (.tmp 24) (.tmp 27) rfl w1.heap.size _ _ [(⟨name, feed, sign⟩ : Ac)] ([] : List Ac) rfl hown6.out hB6.out.size rfl (hr0.out _ _ _ (by omega)) (by simp) ?_; intro v7 w7 hown7 hg7; rw [List.append_nil] at hown7; have hB7 := Lib.hid (own_below' hown6.out hB6.out hg7); have hown7 := Lib.hid hown7; clear hg7))
      go_ret
      exact ⟨v7, rfl, by rw [hFF.out]; exact OwnG.base hown7.out hb1.out.size, below_trans' hb1.out hB7.out⟩
  · obtain ⟨b, o, c, rfl, h1, h2, hb, h4⟩ := hrdc.out.some hL
    have h2' := Lib.hid h2
    unfold maxLen at h2
    have hkc : k ≤ c := by omega
    have hjc : (k : Int) ≤ (c : Int) := by omega
    clear h4 hL
    by_cases hck : c = k
    · obtain rfl : k = L.length := by omega
      subst hck
      go_wp2_with (first
        | (at_make; refine mkAc rfl _ _ rfl (L.length + 1) rfl rfl (by omega) ?_; intro w4 hown4 hb4; have hB4 := Lib.hid (below_trans' hBc.out hb4); have hr4 := Lib.hid (hrdc.out.below hb4); have hown4 := Lib.hid (OwnG.base hown4 hsc); clear hb4)
        | (at_builtin; refine appsAc rfl (.tmp 15) (.tmp 18) rfl w1.heap.size _ _ [] (L.take L.length) rfl hown4.out hB4.out.size rfl (rdG_take encAc_len hr4.out L.length hk L.length hkc h2'.out) hll0 ?_; intro v5 w5 hown5 hg5; rw [List.nil_append] at hown5; have hB5 := Lib.hid (own_below' hown4.out hB4.out hg5); have hown5 := Lib.hid hown5; obtain ⟨f0, f1, f2⟩ := hrow.out _ hB5.out; clear hg5)
        | (at_builtin; refine appAc rfl (.tmp 20) (.tmp 22) rfl w1.heap.size _ (L.take L.length) name feed sign rfl hown5.out hB5.out.size _ rfl rfl hll1 ?_; intro v6 w6 hown6 hg6; have hB6 := Lib.hid (own_below' hown5.out hB5.out hg6); have hr6 := Lib.hid (hrd1.out.below hB6.out); have hown6 := Lib.hid hown6; clear hg6)
        | (at_builtin; refine appsAc rfl (.tmp 24) (.tmp 27) rfl w1.heap.size _ _ (L.take L.length ++ [(⟨name, feed, sign⟩ : Ac)]) (L.drop L.length) rfl hown6.out hB6.out.size rfl (rdG_restA encAc_len hr6.out L.length hk _ _ _ (by first | exact fun _ => rfl | (intro q; omega)) (by omega) (by omega) (by omega)) hll2 ?_; intro v7 w7 hown7 hg7; have hB7 := Lib.hid (own_below' hown6.out hB6.out hg7); have hown7 := Lib.hid hown7; clear hg7))
      go_ret
      exact ⟨v7, rfl, by rw [hFF.out]; have h7 := OwnG.base hown7.out hb1.out.size; rw [List.append_assoc] at h7; exact h7, below_trans' hb1.out hB7.out⟩
    · have hck1 : ¬ (c - k = 0) := by omega
      have hck2 : k < c := by omega
      go_wp2_with (first
        | (at_make; refine mkAc rfl _ _ rfl (L.length + 1) rfl rfl (by omega) ?_; intro w4 hown4 hb4; have hB4 := Lib.hid (below_trans' hBc.out hb4); have hr4 := Lib.hid (hrdc.out.below hb4); have hown4 := Lib.hid (OwnG.base hown4 hsc); clear hb4)
        | (at_builtin; refine appsAc rfl (.tmp 15) (.tmp 18) rfl w1.heap.size _ _ [] (L.take k) rfl hown4.out hB4.out.size rfl (rdG_take encAc_len hr4.out k hk c hkc h2'.out) hll0 ?_; intro v5 w5 hown5 hg5; rw [List.nil_append] at hown5; have hB5 := Lib.hid (own_below' hown4.out hB4.out hg5); have hown5 := Lib.hid hown5; obtain ⟨f0, f1, f2⟩ := hrow.out _ hB5.out; clear hg5)
        | (at_builtin; refine appAc rfl (.tmp 20) (.tmp 22) rfl w1.heap.size _ (L.take k) name feed sign rfl hown5.out hB5.out.size _ rfl rfl hll1 ?_; intro v6 w6 hown6 hg6; have hB6 := Lib.hid (own_below' hown5.out hB5.out hg6); have hr6 := Lib.hid (hrd1.out.below hB6.out); have hown6 := Lib.hid hown6; clear hg6)
        | (at_builtin; refine appsAc rfl (.tmp 24) (.tmp 27) rfl w1.heap.size _ _ (L.take k ++ [(⟨name, feed, sign⟩ : Ac)]) (L.drop k) rfl hown6.out hB6.out.size rfl (rdG_restA encAc_len hr6.out k hk _ _ _ (by first | exact fun _ => rfl | (intro q; omega)) (by omega) (by omega) (by omega)) hll2 ?_; intro v7 w7 hown7 hg7; have hB7 := Lib.hid (own_below' hown6.out hB6.out hg7); have hown7 := Lib.hid hown7; clear hg7))
      go_ret
      exact ⟨v7, rfl, by rw [hFF.out]; have h7 := OwnG.base hown7.out hb1.out.size; rw [List.append_assoc] at h7; exact h7, below_trans' hb1.out hB7.out⟩
set_option maxRecDepth 100000 in
set_option maxHeartbeats 4000000 in
theorem acI_add (v : Value) (L : List Ac) (name feed : ByteArray) (sign : Int) (w : World) (h : RdG encAc w v L) (hf : FitAcs L) (hfa : FitAc ⟨name, feed, sign⟩) :
    Calls Try.prog 28 #[v, .agg #[.string name, .string feed, .int .i64 sign]] w (GotAd (adA L ⟨name, feed, sign⟩) w) := by
  obtain ⟨w1, hw1⟩ : ∃ w1, w.alloc (.cells #[.string name, .string feed, .int .i64 sign] 33) = w1 := ⟨_, rfl⟩
  have hb1 : Below w.heap.size w w1 := by rw [← hw1]; exact (Below.refl _ _).alloc (Nat.le_refl _) _
  have hrow := Lib.hid (fun wX (hX : Below w1.heap.size w1 wX) => row3 hw1 hX)
  have hrd1 := Lib.hid (h.below hb1)
  have hb1 := Lib.hid hb1
  clear h
  go_enter Try.func28, Try.ntmps28
  go_wp2_with fail
  have hw1 := Lib.hid hw1
  refine (acI_valid v L _ hrd1.out hf).mono ?_
  rintro e w2 ⟨rfl, hb2⟩
  have hk2 := Lib.hid hb2
  have hrd2 := Lib.hid (hrd1.out.below hb2)
  have hB2 := Lib.hid (below_trans' hb1.out hb2)
  clear hb2 hrd1
  rcases hF : acsB L with _ | _
  · have HR := Lib.hid (adA_out (a := ⟨name, feed, sign⟩) hF)
    clear hF
    go_wp2
    go_ret2
    exact ⟨_, by rw [HR.out]; rfl, by rw [HR.out]; exact ownG_nil _ _ _ _ _, hB2.out⟩
  · have h8 := (acsB_of hF).1
    have HF := Lib.hid hF
    obtain ⟨y0, y1, y2⟩ := hrow.out w2 hk2.out
    clear hF
    go_wp2_with fail
    refine (acI_with v L name feed sign _ hrd2.out (by omega)).mono ?_
    rintro e w3 ⟨x, rfl, hown, hb3⟩
    have hB3 := Lib.hid (below_trans' hB2.out hb3)
    have hrd3 := Lib.hid (hrd2.out.below hb3)
    have hrdx := Lib.hid (OwnG.rd hown)
    have HO := Lib.hid (OwnG.base hown hB2.out.size)
    clear hb3 hown y0 y1 y2
    go_wp2_with fail
    refine (acI_valid x _ _ hrdx.out (fitAcs_take hf _ hfa)).mono ?_
    rintro e w4 ⟨rfl, hb4⟩
    have HO4 := Lib.hid (OwnG.grown HO.out hb4)
    have hB4 := Lib.hid (below_trans' hB3.out hb4)
    have hrd4 := Lib.hid (hrd3.out.below hb4)
    have hs4 := hB4.out.size
    clear hb4
    rcases hF2 : acsB (insG acL L ⟨name, feed, sign⟩) with _ | _
    · have HZ := Lib.hid (adA_no HF.out hF2)
      have hll : ([] : List Ac).length + L.length ≤ 1073741824 := by simp; omega
      obtain ⟨A, c, rfl, h1, h2, _⟩ := hrd4.out
      unfold maxLen at h2
      clear hF2
      go_wp2_with (first
        | (at_make; refine mkAc rfl _ _ rfl L.length rfl rfl (by omega) ?_; intro w5 hown5 hb5; have hB5 := Lib.hid (below_trans' hB4.out hb5); have hr5 := Lib.hid (hrd4.out.below hb5); have hown5 := Lib.hid (OwnG.base hown5 hs4); clear hb5)
        | (at_builtin; refine appsAc rfl (.tmp 18) (.tmp 19) rfl w.heap.size _ _ [] L rfl hown5.out hB5.out.size rfl hr5.out hll ?_; intro v6 w6 hown6 hg6; rw [List.nil_append] at hown6; have hB6 := Lib.hid (own_below' hown5.out hB5.out hg6); have hown6 := Lib.hid hown6; clear hg6))
      go_ret2
      exact ⟨_, by rw [HZ.out]; rfl, by rw [HZ.out]; exact hown6.out, hB6.out⟩
    · have HZ := Lib.hid (adA_yes HF.out hF2)
      clear hF2
      go_wp2
      go_ret2
      exact ⟨_, by rw [HZ.out]; rfl, by rw [HZ.out]; exact HO4.out, hB4.out⟩
end Go.Proofs.Ytacapigdfabiiaa
