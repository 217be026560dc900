/-
  'FnExactMergeFeeds' answers true at every input, and each argument reads behind the call as before. Conditions: none.
-/
import Derived.Test.YtbljpbmpfmnemaaRows
import Derived.Test.YtbljpbmpfmnemaaGu
import Derived.Test.YtbljpbmpfmnemaaGr
import Derived.Test.YtbljpbmpfmnemaaLawF5
import Derived.Test.YtbljpbmpfmnemaaGz
import Derived.Test.YtbljpbmpfmnemaaMrgI
import Derived.Test.YtbljpbmpfmnemaaMergeS
import Derived.WalkKit
import Derived.ProofKit
import Derived.Below
import Derived.Lib.Hide
import Derived.Outline
import Derived.BigQuiet
import Derived.Deep.QuietTactic
import Derived.Deep.Draws
import Derived.Laws.OwnMore
import Derived.Laws.Rows
import Derived.WalkSpells
import Derived.Deep.RegionWith
import Derived.OpenShut
import Derived.ShutString
import Derived.ChangeOld
namespace Go.Proofs.Ytbljpbmpfmnemaa.fnExactMergeFeeds
open Go.ChangeShapes Go.WideShapes Go.ChangeAt Go.RowKit
open Go.ChangeMaps (open_string shut_string)
set_option linter.unusedVariables false
theorem own : ownKnob Try.prog.godebug = none := by kernel_rfl
theorem laidOut : laidOutB Try.prog = true := by kernel_rfl
set_option maxRecDepth 100000 in
set_option maxHeartbeats 4000000 in
theorem walk (a0 : Option Addr) (len0 cap0 : Nat) (L0 : List It) (a1 : Option Addr) (len1 cap1 : Nat) (L1 : List It) (w : World) (w0 : ArgFL w a0 len0 cap0 L0) (w1 : ArgFL w a1 len1 cap1 L1) :
    Calls Try.prog 11 #[.slice a0 len0 cap0, .slice a1 len1 cap1] w fun e w' => e = .returned (.bool true) ∧ Below w.heap.size w w' := by
  obtain ⟨hlen0, hrd0, hmax0⟩ := w0
  subst hlen0
  obtain ⟨hlen1, hrd1, hmax1⟩ := w1
  subst hlen1
  go_enter Try.func11, Try.ntmps11
  go_wp2_with fail
  refine (szIs_gen _ L0 1048576 _ hrd0 hmax0 (by omega) (by omega)).mono ?_
  rintro e w11 ⟨r0, rfl, hr0, hs0, hb11⟩
  replace hrd0 := hrd0.below hb11
  replace hrd1 := hrd1.below hb11
  have hB := Lib.hid hb11
  clear hb11
  by_cases hneg0 : r0 < 0
  · go_wp2
    go_ret
    exact ⟨rfl, hB.out⟩
  · have hsz0 := hs0 (by omega)
    have hfit0 := fit_szF hsz0
    have h200 := hsz0.1
    clear hs0 hsz0
    go_wp2_with fail
    refine (szIs_gen _ L1 r0 _ hrd1 hmax1 (by omega) (by omega)).mono ?_
    rintro e w12 ⟨r1, rfl, hr1, hs1, hb12⟩
    replace hrd0 := hrd0.below hb12
    replace hrd1 := hrd1.below hb12
    replace hB := Lib.hid (below_trans' hB.out hb12)
    clear hb12
    by_cases hneg1 : r1 < 0
    · go_wp2
      go_ret
      exact ⟨rfl, hB.out⟩
    · have hsz1 := hs1 (by omega)
      have hfit1 := fit_szF hsz1
      have h201 := hsz1.1
      clear hs1 hsz1
      go_wp2_with fail
      refine (toIs_any _ L0 _ hrd0 h200).mono ?_
      rintro e w13 ⟨t0, rfl, hown13, hb13⟩
      replace hrd0 := hrd0.below hb13
      replace hrd1 := hrd1.below hb13
      have hrt0 := OwnG.rd hown13
      replace hB := Lib.hid (below_trans' hB.out hb13)
      clear hown13 hb13
      go_wp2_with fail
      refine (toIs_any _ L1 _ hrd1 h201).mono ?_
      rintro e w14 ⟨t1, rfl, hown14, hb14⟩
      replace hrd0 := hrd0.below hb14
      replace hrd1 := hrd1.below hb14
      replace hrt0 := hrt0.below hb14
      have hrt1 := OwnG.rd hown14
      replace hB := Lib.hid (below_trans' hB.out hb14)
      clear hown14 hb14
      go_wp2_with fail
      refine (chS_mrg t0 t1 L0 L1 _ hrt0 hrt1 hfit0 hfit1).mono ?_
      rintro e w15 ⟨u, rfl, hownu, hb15⟩
      replace hrd0 := Lib.hid (hrd0.below hb15)
      replace hrd1 := Lib.hid (hrd1.below hb15)
      have hu := Lib.hid (OwnG.rd hownu)
      replace hB := Lib.hid (below_trans' hB.out hb15)
      clear hownu hb15 hrt0 hrt1
      have hbound : (mrgF L0 L1).length ≤ 100 := Nat.le_trans (mrgF_len L0 L1) (by omega)
      obtain ⟨LL, hLL⟩ : ∃ LL, mrgF L0 L1 = LL := ⟨_, rfl⟩
      replace hLL := Lib.hid hLL
      rw [hLL.out] at hu hbound
      have hk : Hid (Below w15.heap.size w15 w15) := Lib.hid (Below.refl _ _)
      go_wp2_with fail
      refine (toIs_any _ L0 _ (hrd0.out.below hk.out) h200).mono ?_
      rintro e w16 ⟨v0, rfl, hx0, hb16⟩
      replace hk := Lib.hid (below_trans' hk.out hb16)
      have hblk0 := Lib.hid (fun k hk => (World.ownsRow.lt hx0 k hk).2)
      have hlo0 : w15.heap.size ≤ w15.heap.size := Nat.le_refl _
      have hszs0 : w15.heap.size ≤ w16.heap.size := hb16.size
      replace hx0 := Lib.hid hx0
      clear hb16
      go_wp2_with fail
      refine (toIs_any _ L1 _ (hrd1.out.below hk.out) h201).mono ?_
      rintro e w17 ⟨v1, rfl, hx1, hb17⟩
      replace hx0 := Lib.hid (OwnG.grown hx0.out hb17)
      replace hk := Lib.hid (below_trans' hk.out hb17)
      have hblk1 := Lib.hid (fun k hk => (World.ownsRow.lt hx1 k hk).2)
      have hlo1 : w15.heap.size ≤ w16.heap.size := Nat.le_trans hlo0 hszs0
      have hszs1 : w16.heap.size ≤ w17.heap.size := hb17.size
      replace hx1 := Lib.hid hx1
      clear hb17
      go_wp2_with fail
      refine (chI_mrg v0 v1 L0 L1 _ (OwnG.rd hx0.out) (OwnG.rd hx1.out) hfit0 hfit1).mono ?_
      rintro e w18 ⟨g, rfl, hg, hb18⟩
      rw [hLL.out] at hg
      replace hx0 := Lib.hid (OwnG.grown hx0.out hb18)
      replace hx1 := Lib.hid (OwnG.grown hx1.out hb18)
      replace hk := Lib.hid (below_trans' hk.out hb18)
      have hlog : w15.heap.size ≤ w17.heap.size := Nat.le_trans hlo1 hszs1
      replace hg := Lib.hid hg
      clear hb18
      go_wp2_with fail
      refine (eqIs_any g u _ _ (OwnG.rd hg.out) (hu.out.below hk.out)).mono ?_
      rintro e w19 ⟨rfl, hb19⟩
      replace hx0 := Lib.hid (OwnG.grown hx0.out hb19)
      replace hx1 := Lib.hid (OwnG.grown hx1.out hb19)
      replace hg := Lib.hid (OwnG.grown hg.out hb19)
      replace hk := Lib.hid (below_trans' hk.out hb19)
      clear hb19
      go_wp2_with fail
      refine (toIs_any _ L0 _ (hrd0.out.below hk.out) h200).mono ?_
      rintro e w20 ⟨s0, rfl, hs0, hb20⟩
      replace hx0 := Lib.hid (OwnG.grown hx0.out hb20)
      replace hx1 := Lib.hid (OwnG.grown hx1.out hb20)
      replace hg := Lib.hid (OwnG.grown hg.out hb20)
      replace hk := Lib.hid (below_trans' hk.out hb20)
      replace hs0 := OwnG.rd hs0
      clear hb20
      go_wp2_with fail
      refine (eqIs_any v0 s0 _ _ (OwnG.rd hx0.out) hs0).mono ?_
      rintro e w21 ⟨rfl, hb21⟩
      replace hx0 := Lib.hid (OwnG.grown hx0.out hb21)
      replace hx1 := Lib.hid (OwnG.grown hx1.out hb21)
      replace hg := Lib.hid (OwnG.grown hg.out hb21)
      replace hk := Lib.hid (below_trans' hk.out hb21)
      clear hb21
      clear hs0
      go_wp2_with fail
      refine (toIs_any _ L1 _ (hrd1.out.below hk.out) h201).mono ?_
      rintro e w22 ⟨s1, rfl, hs1, hb22⟩
      replace hx0 := Lib.hid (OwnG.grown hx0.out hb22)
      replace hx1 := Lib.hid (OwnG.grown hx1.out hb22)
      replace hg := Lib.hid (OwnG.grown hg.out hb22)
      replace hk := Lib.hid (below_trans' hk.out hb22)
      replace hs1 := OwnG.rd hs1
      clear hb22
      go_wp2_with fail
      refine (eqIs_any v1 s1 _ _ (OwnG.rd hx1.out) hs1).mono ?_
      rintro e w23 ⟨rfl, hb23⟩
      replace hx0 := Lib.hid (OwnG.grown hx0.out hb23)
      replace hx1 := Lib.hid (OwnG.grown hx1.out hb23)
      replace hg := Lib.hid (OwnG.grown hg.out hb23)
      replace hk := Lib.hid (below_trans' hk.out hb23)
      clear hb23
      clear hs1
      have hm0 : (1 : Nat) ≤ 1 := Nat.le_refl _
      go_wp2_with fail
      refine (markIs_row2 v0 L0 1 _ _ hx0.out h200 (by omega)).mono ?_
      rintro e w24 ⟨rfl, _, hg24⟩
      obtain ⟨m0, hm0⟩ : ∃ m, 1 + 4 * L0.length = m := ⟨_, rfl⟩
      rw [hm0]
      replace hk := Lib.hid (own_below (OwnG.base hx0.out hlo0) hk.out hg24)
      replace hx1 := Lib.hid (OwnG.row hx1.out hg24 (fun k hk => Nat.lt_of_lt_of_le (hblk0.out k hk) (Nat.le_refl _)))
      replace hg := Lib.hid (OwnG.row hg.out hg24 (fun k hk => Nat.lt_of_lt_of_le (hblk0.out k hk) (by omega)))
      clear hg24 hx0
      go_wp2_with fail
      refine (markIs_row2 v1 L1 m0 _ _ hx1.out h201 (by omega)).mono ?_
      rintro e w25 ⟨rfl, _, hg25⟩
      obtain ⟨m1, hm1⟩ : ∃ m, m0 + 4 * L1.length = m := ⟨_, rfl⟩
      rw [hm1]
      replace hk := Lib.hid (own_below (OwnG.base hx1.out hlo1) hk.out hg25)
      replace hg := Lib.hid (OwnG.row hg.out hg25 (fun k hk => Nat.lt_of_lt_of_le (hblk1.out k hk) (by omega)))
      clear hg25 hx1
      have t0 : decide ((m1 : Int) < 0) = false := decide_eq_false (by omega)
      have t1 : ¬ ((m1 : Int) < 0) := by omega
      go_wp2_with fail
      refine (eqIs_any g u _ _ (OwnG.rd hg.out) (hu.out.below hk.out)).mono ?_
      rintro e w26 ⟨rfl, hb26⟩
      replace hg := Lib.hid (OwnG.grown hg.out hb26)
      replace hk := Lib.hid (below_trans' hk.out hb26)
      clear hb26
      go_wp2_with fail
      refine (markIs_row2 g LL 1 _ _ hg.out (by omega) (by omega)).mono ?_
      rintro e w27 ⟨rfl, hgm, hg27⟩
      obtain ⟨q0, hq0⟩ : ∃ q, 1 + 4 * LL.length = q := ⟨_, rfl⟩
      rw [hq0]
      replace hk := Lib.hid (own_below (OwnG.base hg.out hlog) hk.out hg27)
      replace hg := Lib.hid hgm
      clear hgm hg27
      have q1 : ((q0 : Int) == (q0 : Int)) = true := by simp
      have q2 : decide ((q0 : Int) < 0) = false := decide_eq_false (by omega)
      have q3 : ¬ ((q0 : Int) < 0) := by omega
      go_wp2_with fail
      refine (heldFs_any g LL.length 1 _ (OwnG.rd hg.out) (by omega) (by omega)).mono ?_
      rintro e w28 ⟨rfl, hb28⟩
      rw [hq0]
      replace hg := Lib.hid (OwnG.grown hg.out hb28)
      replace hk := Lib.hid (below_trans' hk.out hb28)
      clear hb28
      go_wp2_with fail
      refine (toIs_any _ L0 _ (hrd0.out.below hk.out) h200).mono ?_
      rintro e w29 ⟨s0, rfl, hs0, hb29⟩
      replace hg := Lib.hid (OwnG.grown hg.out hb29)
      replace hk := Lib.hid (below_trans' hk.out hb29)
      replace hs0 := Lib.hid (OwnG.rd hs0)
      clear hb29
      go_wp2_with fail
      refine (toIs_any _ L1 _ (hrd1.out.below hk.out) h201).mono ?_
      rintro e w30 ⟨s1, rfl, hs1, hb30⟩
      replace hg := Lib.hid (OwnG.grown hg.out hb30)
      replace hk := Lib.hid (below_trans' hk.out hb30)
      replace hs1 := Lib.hid (OwnG.rd hs1)
      replace hs0 := Lib.hid (hs0.out.below hb30)
      clear hb30
      go_wp2_with fail
      refine (chI_mrg s0 s1 L0 L1 _ hs0.out hs1.out hfit0 hfit1).mono ?_
      rintro e w31 ⟨h, rfl, hh, hb31⟩
      rw [hLL.out] at hh
      replace hh := OwnG.rd hh
      replace hg := Lib.hid (OwnG.grown hg.out hb31)
      replace hk := Lib.hid (below_trans' hk.out hb31)
      clear hb31 hs0 hs1
      go_wp2_with fail
      refine (eqIs_any h u _ _ hh (hu.out.below hk.out)).mono ?_
      rintro e w32 ⟨rfl, hb32⟩
      replace hg := Lib.hid (OwnG.grown hg.out hb32)
      replace hk := Lib.hid (below_trans' hk.out hb32)
      clear hb32
      clear hh
      go_wp2_with fail
      refine (heldFs_any g LL.length 1 _ (OwnG.rd hg.out) (by omega) (by omega)).mono ?_
      rintro e w33 ⟨rfl, hb33⟩
      rw [hq0]
      replace hg := Lib.hid (OwnG.grown hg.out hb33)
      replace hk := Lib.hid (below_trans' hk.out hb33)
      clear hb33
      go_wp2
      go_ret
      exact ⟨rfl, below_trans' hB.out hk.out⟩
set_option maxRecDepth 100000 in
theorem lifted (os : Os) (started : os.Started) (H : Type) (enc : TypeId × Value → H) :
    ReturnsInHanded {} Try.checked os 11 .any (Rows.fnExactMergeFeedsSpec.pre6 enc Try.prog Try.f11 Rows.fnExactMergeFeedsRow.domain false) (Rows.fnExactMergeFeedsSpec.post enc Try.prog Try.f11 false true false false) := by
  refine returnsInHanded_of_change (C := Try.checked) own started (by kernel_rfl) Try.func11
    (ChangeSpec.witness6 (enc := enc) (C := Try.checked) false ⟨#[], #[.slice none 0 0, .slice none 0 0], []⟩ 8 (by kernel_rfl) (by kernel_rfl) (by kernel_rfl) (by kernel_rfl)) ?_
  intro W base args ds gs before hval0 hW hcnd _
  have hval : ∀ (j : Nat) t v, Try.f11.params[j]? = some t → args[j]? = some v → Value.okWide Try.prog W .any base t v := hval0
  have hW' := hW
  obtain ⟨p, q, hA0, hV, rfl, hfz, hnd⟩ := hW
  have hA : DataW.TrodAll enc Try.prog W 0 (fun _ => true) true Try.f11.params.toList args.toList ds p := hA0
  rw [Try.params11] at hA hval
  obtain ⟨v0, vs0, d0, ds0, p0, q0, hargs, rfl, rfl, h0, r0⟩ := trodAll_cons hA
  obtain ⟨v1, vs1, d1, ds1, p1, q1, rfl, rfl, rfl, h1, r1⟩ := trodAll_cons r0
  obtain ⟨rfl, rfl, rfl⟩ := trodAll_nil r1
  obtain rfl : args = #[v0, v1] := by cases args; simp_all
  obtain ⟨rfl, rfl⟩ := trodVars_none hV
  obtain ⟨a0, len0, cap0, rfl⟩ := okWide_slice Try.underlying40 (hval 0 40 v0 rfl rfl)
  have k0 := h0
  have lt0 : ∀ x ∈ p0, x.block < W.heap.size := by obtain ⟨m, hm⟩ := k0; exact DataW.trod_lt m _ _ _ hm
  obtain ⟨L0, w0⟩ : ∃ L, ArgFL W a0 len0 cap0 L := by
    obtain ⟨fuel, hf⟩ := h0
    exact argF (by simp [Value.cells]) hf
  obtain ⟨a1, len1, cap1, rfl⟩ := okWide_slice Try.underlying40 (hval 1 40 v1 rfl rfl)
  have k1 := h1
  have lt1 : ∀ x ∈ p1, x.block < W.heap.size := by obtain ⟨m, hm⟩ := k1; exact DataW.trod_lt m _ _ _ hm
  obtain ⟨L1, w1⟩ : ∃ L, ArgFL W a1 len1 cap1 L := by
    obtain ⟨fuel, hf⟩ := h1
    exact argF (by simp [Value.cells]) hf
  clear hA0 hval0
  refine (walk a0 len0 cap0 L0 a1 len1 cap1 L1 W w0 w1).mono fun e W' ⟨he, bel⟩ => ?_
  subst he
  exact ⟨_, rfl, _, _, _, [], _, [], hW', trodAll_mk1 (shut_bool Try.underlying4 _), (trodAll_cons_mk (Below.trod laidOut (by kernel_rfl) (of_decide_eq_true (by kernel_rfl)) k0 bel lt0) (trodAll_cons_mk (Below.trod laidOut (by kernel_rfl) (of_decide_eq_true (by kernel_rfl)) k1 bel lt1) trodAll_mk0)), rfl, bel.frame _, fun h => by cases h⟩
theorem over : Rows.fnExactMergeFeedsRow.holds Try.pinned (OpenSpec.ofChange Rows.fnExactMergeFeedsSpec) :=
  OpenClaim.holds_of_wide 11 Try.f11 rfl rfl rfl rfl rfl rfl rfl ⟨rfl, rfl, rfl, rfl, rfl⟩ rfl rfl rfl rfl rfl (by kernel_rfl) Try.func11 (by kernel_rfl)
    (of_decide_eq_true (by kernel_rfl)) (by unfold Func.isWrapper; first | (rw [if_pos (by decide +kernel)]; kernel_rfl) | (rw [if_neg (by decide +kernel)]; exact ⟨rfl, rfl⟩))
    (fun os started H enc _ => lifted os started H enc)
theorem proved : Rows.FnExactMergeFeedsSaid := over
#print axioms proved
end Go.Proofs.Ytbljpbmpfmnemaa.fnExactMergeFeeds
