/-
  'FnExactAddActor' answers true at every input, and each argument reads behind the call as before. Conditions: none.
-/
import Derived.Test.YtacapigdfabiiaaRows
import Derived.Test.YtacapigdfabiiaaActI
import Derived.Test.YtacapigdfabiiaaHC
import Derived.Deep.RegionHeld3
import Derived.WalkKit
import Derived.ProofKit
import Derived.Below
import Derived.Lib.Hide
import Derived.Outline
import Derived.BigQuiet
import Derived.Deep.QuietTactic
import Derived.Deep.Draws
import Derived.Laws.OwnMore
import Derived.Laws.Rows
import Derived.WalkSpells
import Derived.Deep.RegionWith
import Derived.OpenShut
import Derived.ShutString
import Derived.ChangeOld
namespace Go.Proofs.Ytacapigdfabiiaa.fnExactAddActor
open Go.ChangeShapes Go.WideShapes Go.ChangeAt Go.RowKit
open Go.ChangeMaps (open_string shut_string)
set_option linter.unusedVariables false
theorem own : ownKnob Try.prog.godebug = none := by kernel_rfl
theorem laidOut : laidOutB Try.prog = true := by kernel_rfl
set_option maxRecDepth 100000 in
set_option maxHeartbeats 4000000 in
theorem walk (a0 : Option Addr) (len0 cap0 : Nat) (L0 : List Ac) (name1 : ByteArray) (feed1 : ByteArray) (sign1 : Int) (w : World) (w0 : ArgLAc w a0 len0 cap0 L0) (w1 : InAc ⟨name1, feed1, sign1⟩) :
    Calls Try.prog 12 #[.slice a0 len0 cap0, .agg #[.string name1, .string feed1, .int .i64 sign1]] w fun e w' => e = .returned (.bool true) ∧ Below w.heap.size w w' := by
  obtain ⟨hlen0, hrd0, hmax0⟩ := w0
  subst hlen0
  have hin1 := w1
  clear w1
  obtain ⟨b1, hb1⟩ : ∃ b1, w.alloc (.cells #[.string name1, .string feed1, .int .i64 sign1] 50) = b1 := ⟨_, rfl⟩
  have hbb1 : Below w.heap.size w b1 := by rw [← hb1]; exact (Below.refl _ _).alloc (Nat.le_refl _) _
  have hBb := Lib.hid (hbb1)
  have hrow : ∀ wX, Below b1.heap.size b1 wX → wX.cell? ⟨w.heap.size, 0, none⟩ = some (.string name1) ∧ wX.cell? ⟨w.heap.size, 1, none⟩ = some (.string feed1) ∧ wX.cell? ⟨w.heap.size, 2, none⟩ = some (.int .i64 sign1) := fun wX hX => by
    obtain ⟨y1_0, y1_1, y1_2⟩ := row3 hb1 hX
    exact ⟨y1_0, y1_1, y1_2⟩
  have hrow := Lib.hid hrow
  have hN := Lib.hid (Below.refl b1.heap.size b1)
  replace hrd0 := hrd0.below hbb1
  clear hbb1
  have hrd0 := Lib.hid hrd0
  have hB := Lib.hid hBb.out
  go_enter Try.func12, Try.ntmps12
  go_wp2_with fail
  have hb1 := Lib.hid hb1
  refine (szsAc_any _ L0 1048576 _ hrd0.out hmax0 (by omega) (by omega)).mono ?_
  rintro e w11 ⟨r0, rfl, hr0, hs_0, hb11_⟩
  replace hrd0 := Lib.hid (hrd0.out.below hb11_)
  replace hB := Lib.hid (below_trans' hB.out hb11_)
  replace hN := Lib.hid (below_trans' hN.out hb11_)
  clear hb11_
  by_cases hneg0 : r0 < 0
  · go_wp2
    go_ret
    exact ⟨rfl, hB.out⟩
  · have hsz0 := hs_0 (by omega)
    have hfit0 := fitAc_szs hsz0
    have h200 := lenAc_szs hsz0
    clear hs_0 hsz0
    obtain ⟨y1_0, y1_1, y1_2⟩ := hrow.out _ hN.out
    go_wp2_with fail
    refine (szAc_any name1 feed1 sign1 r0 _ hin1 (by omega) (by omega)).mono ?_
    rintro e w12 ⟨r1, rfl, hr1, hs_1, hb12_⟩
    clear y1_0 y1_1 y1_2
    replace hrd0 := Lib.hid (hrd0.out.below hb12_)
    replace hB := Lib.hid (below_trans' hB.out hb12_)
    replace hN := Lib.hid (below_trans' hN.out hb12_)
    clear hb12_
    by_cases hneg1 : r1 < 0
    · go_wp2
      go_ret
      exact ⟨rfl, hB.out⟩
    · have hsz1 := hs_1 (by omega)
      have hfit1 := fitAc_sz hsz1
      clear hs_1 hsz1
      have HSS : ∀ wX, Below b1.heap.size b1 wX → (fun w' => w'.cell? ⟨w.heap.size, 0, none⟩ = some (.string name1) ∧ w'.cell? ⟨w.heap.size, 1, none⟩ = some (.string feed1) ∧ w'.cell? ⟨w.heap.size, 2, none⟩ = some (.int .i64 sign1) ∧ Hid (Below b1.heap.size b1 w')) wX := fun wX hX => by
        obtain ⟨y1_0, y1_1, y1_2⟩ := hrow.out _ hX
        exact ⟨y1_0, y1_1, y1_2, Lib.hid hX⟩
      have HSS := Lib.hid HSS
      have hS0S := Lib.hid (HSS.out _ (Below.drew hN.out))
      skip
      go_wp2
      go_region_held3 (fun w' => w'.cell? ⟨w.heap.size, 0, none⟩ = some (.string name1) ∧ w'.cell? ⟨w.heap.size, 1, none⟩ = some (.string feed1) ∧ w'.cell? ⟨w.heap.size, 2, none⟩ = some (.int .i64 sign1) ∧ Hid (Below b1.heap.size b1 w'))
        (first | exact hS0S.out | exact hSS1.out | exact hSS2.out | exact hSS3.out)
        (first
          | (go_at_call 36; ((with_reducible refine (tosAc_any _ L0 _ (hrd0.out.below (Below.drew (Below.refl _ _))) h200).mono ?_); rintro e wS1 ⟨t0, rfl, ht0, hbT0⟩; go_split_ands; have hSS1 := Lib.hid (HSS.out _ (below_trans' (Hid.out (by assumption)) hbT0)); have hrd0_S1 := Lib.hid ((hrd0.out.below (Below.drew (Below.refl _ _))).below hbT0); have hB_S1 := Lib.hid (below_trans' (Below.drew hB.out) hbT0); have ht0_S1 := Lib.hid (OwnG.rd ht0)))
          | (go_at_call 39; ((with_reducible refine (toAc_any name1 feed1 sign1 _).mono ?_); rintro e wS2 ⟨rfl, hbT1⟩; go_split_ands; have hSS2 := Lib.hid (HSS.out _ (below_trans' (Hid.out (by assumption)) hbT1)); have hrd0_S2 := Lib.hid (hrd0_S1.out.below hbT1); have ht0_S2 := Lib.hid (ht0_S1.out.below hbT1); have hB_S2 := Lib.hid (below_trans' hB_S1.out hbT1)))
          | (go_at_call 29; ((with_reducible refine (acS_add t0 L0 name1 feed1 sign1 _ ht0_S2.out hfit0 hfit1).mono ?_); rintro e wS3 ⟨u, rfl, hu, hbF⟩; go_split_ands; have hSS3 := Lib.hid (HSS.out _ (below_trans' (Hid.out (by assumption)) hbF)); have hrd0_S3 := Lib.hid (hrd0_S2.out.below hbF); have ht0_S3 := Lib.hid (ht0_S2.out.below hbF); have hB_S3 := Lib.hid (below_trans' hB_S2.out hbF))))
      go_split_ands
      rename Hid (Below b1.heap.size b1 _) => hNX
      replace hN := hNX
      replace hrd0 := hrd0_S3
      replace hB := hB_S3
      have hbound : (adA L0 ⟨name1, feed1, sign1⟩).1.length ≤ 100 := Nat.le_trans (adA_8 L0 ⟨name1, feed1, sign1⟩) (by omega)
      obtain ⟨MP, hMP⟩ : ∃ MP, adA L0 ⟨name1, feed1, sign1⟩ = MP := ⟨_, rfl⟩
      replace hMP := Lib.hid hMP
      rw [hMP.out] at hu hbound ⊢
      replace hu := Lib.hid (OwnG.rd hu)
      have hk := Lib.hid (Below.refl wS3.heap.size wS3)
      have hB0 := hB
      have hN0 := hN
      go_wp2_with fail
      refine (tosAc_any _ L0 _ (hrd0.out.below hk.out) h200).mono ?_
      rintro e w13 ⟨x0, rfl, hx0, hb13_⟩
      have hlo0 : Hid (wS3.heap.size ≤ wS3.heap.size) := Lib.hid hk.out.size
      have hblk0 := Lib.hid (fun k hk => (World.ownsRow.lt hx0 k hk).2)
      have hge0 := Lib.hid (OwnG.ge hx0)
      replace hB := Lib.hid (below_trans' hB.out hb13_)
      replace hN := Lib.hid (below_trans' hN.out hb13_)
      replace hk := Lib.hid (below_trans' hk.out hb13_)
      replace hx0 := Lib.hid hx0
      clear hb13_
      have hz0 := Lib.hid (Below.refl w13.heap.size w13)
      obtain ⟨y1_0, y1_1, y1_2⟩ := hrow.out _ hN.out
      go_wp2_with fail
      refine (toAc_any name1 feed1 sign1 _).mono ?_
      rintro e w14 ⟨rfl, hb14_⟩
      clear y1_0 y1_1 y1_2
      replace hx0 := Lib.hid (OwnG.grown hx0.out hb14_)
      replace hB := Lib.hid (below_trans' hB.out hb14_)
      replace hN := Lib.hid (below_trans' hN.out hb14_)
      replace hk := Lib.hid (below_trans' hk.out hb14_)
      replace hz0 := Lib.hid (below_trans' hz0.out hb14_)
      clear hb14_
      have hup0_g := Lib.hid hz0.out.size
      have hlog := Lib.hid hk.out.size
      go_wp2_with fail
      refine (acI_add x0 L0 name1 feed1 sign1 _ (OwnG.rd hx0.out) hfit0 hfit1).mono ?_
      rintro e w15 ⟨g, rfl, hg, hbF⟩
      replace hx0 := Lib.hid (OwnG.grown hx0.out hbF)
      replace hB := Lib.hid (below_trans' hB.out hbF)
      replace hN := Lib.hid (below_trans' hN.out hbF)
      replace hk := Lib.hid (below_trans' hk.out hbF)
      replace hz0 := Lib.hid (below_trans' hz0.out hbF)
      clear hbF
      clear hz0
      rw [hMP.out] at hg ⊢
      replace hg := Lib.hid hg
      go_wp2_with fail
      refine (eqsAc_any g u _ _ (OwnG.rd hg.out) (hu.out.below hk.out)).mono ?_
      rintro e w16 ⟨rfl, hb16_⟩
      replace hx0 := Lib.hid (OwnG.grown hx0.out hb16_)
      replace hg := Lib.hid (OwnG.grown hg.out hb16_)
      replace hB := Lib.hid (below_trans' hB.out hb16_)
      replace hN := Lib.hid (below_trans' hN.out hb16_)
      replace hk := Lib.hid (below_trans' hk.out hb16_)
      clear hb16_
      go_wp2_with fail
      refine (tosAc_any _ L0 _ (hrd0.out.below hk.out) h200).mono ?_
      rintro e w17 ⟨s0, rfl, hs0, hb17_⟩
      replace hx0 := Lib.hid (OwnG.grown hx0.out hb17_)
      replace hg := Lib.hid (OwnG.grown hg.out hb17_)
      replace hB := Lib.hid (below_trans' hB.out hb17_)
      replace hN := Lib.hid (below_trans' hN.out hb17_)
      replace hk := Lib.hid (below_trans' hk.out hb17_)
      replace hs0 := OwnG.rd hs0
      clear hb17_
      go_wp2_with fail
      refine (eqsAc_any x0 s0 _ _ (OwnG.rd hx0.out) hs0).mono ?_
      rintro e w18 ⟨rfl, hb18_⟩
      replace hx0 := Lib.hid (OwnG.grown hx0.out hb18_)
      replace hg := Lib.hid (OwnG.grown hg.out hb18_)
      replace hB := Lib.hid (below_trans' hB.out hb18_)
      replace hN := Lib.hid (below_trans' hN.out hb18_)
      replace hk := Lib.hid (below_trans' hk.out hb18_)
      clear hb18_
      clear hs0
      go_wp2_with fail
      refine (marksAc_row x0 L0 1 _ _ hx0.out h200 (by omega)).mono ?_
      rintro e w19 ⟨rfl, _, hg19_⟩
      obtain ⟨m0, hm0⟩ : ∃ m, 1 + 3 * L0.length = m := ⟨_, rfl⟩
      rw [hm0]
      have hbm0 : Below wS3.heap.size wS3 w19 := own_below' (OwnG.base hx0.out hlo0.out) hk.out hg19_
      replace hg := Lib.hid (OwnG.row hg.out hg19_ (fun k hk => Nat.lt_of_lt_of_le (hblk0.out k hk) hup0_g.out))
      replace hk := Lib.hid hbm0
      clear hg19_ hx0 hbm0
      replace hN := Lib.hid (below_trans' hN0.out hk.out)
      replace hB := Lib.hid (below_trans' hB0.out hk.out)
      have t0 : decide ((m0 : Int) < 0) = false := decide_eq_false (by omega)
      have t1 : ¬ ((m0 : Int) < 0) := by omega
      go_wp2_with fail
      refine (eqsAc_any g u _ _ (OwnG.rd hg.out) (hu.out.below hk.out)).mono ?_
      rintro e w20 ⟨rfl, hb20_⟩
      replace hg := Lib.hid (OwnG.grown hg.out hb20_)
      replace hB := Lib.hid (below_trans' hB.out hb20_)
      replace hN := Lib.hid (below_trans' hN.out hb20_)
      replace hk := Lib.hid (below_trans' hk.out hb20_)
      clear hb20_
      go_wp2_with fail
      refine (marksAc_row g MP.1 1 _ _ hg.out (by omega) (by omega)).mono ?_
      rintro e w21 ⟨rfl, hgm, hg21_⟩
      obtain ⟨q0, hq0⟩ : ∃ q, 1 + 3 * MP.1.length = q := ⟨_, rfl⟩
      rw [hq0]
      have hbm : Below wS3.heap.size wS3 w21 := own_below' (OwnG.base hg.out hlog.out) hk.out hg21_
      replace hk := Lib.hid hbm
      replace hg := Lib.hid hgm
      clear hgm hg21_ hbm
      replace hN := Lib.hid (below_trans' hN0.out hk.out)
      replace hB := Lib.hid (below_trans' hB0.out hk.out)
      have q1 : ((q0 : Int) == (q0 : Int)) = true := by simp
      have q2 : decide ((q0 : Int) < 0) = false := decide_eq_false (by omega)
      have q3 : ¬ ((q0 : Int) < 0) := by omega
      go_wp2_with fail
      refine (heldsAc_any g MP.1.length 1 _ (OwnG.rd hg.out) (by omega) (by omega)).mono ?_
      rintro e w22 ⟨rfl, hb22_⟩
      rw [hq0]
      replace hg := Lib.hid (OwnG.grown hg.out hb22_)
      replace hB := Lib.hid (below_trans' hB.out hb22_)
      replace hN := Lib.hid (below_trans' hN.out hb22_)
      replace hk := Lib.hid (below_trans' hk.out hb22_)
      clear hb22_
      have HSJ : ∀ wX, Below b1.heap.size b1 wX → (fun w' => w'.cell? ⟨w.heap.size, 0, none⟩ = some (.string name1) ∧ w'.cell? ⟨w.heap.size, 1, none⟩ = some (.string feed1) ∧ w'.cell? ⟨w.heap.size, 2, none⟩ = some (.int .i64 sign1) ∧ Hid (Below b1.heap.size b1 w')) wX := fun wX hX => by
        obtain ⟨y1_0, y1_1, y1_2⟩ := hrow.out _ hX
        exact ⟨y1_0, y1_1, y1_2, Lib.hid hX⟩
      have HSJ := Lib.hid HSJ
      have hS0J := Lib.hid (HSJ.out _ (Below.drew hN.out))
      skip
      go_wp2
      go_region_held3 (fun w' => w'.cell? ⟨w.heap.size, 0, none⟩ = some (.string name1) ∧ w'.cell? ⟨w.heap.size, 1, none⟩ = some (.string feed1) ∧ w'.cell? ⟨w.heap.size, 2, none⟩ = some (.int .i64 sign1) ∧ Hid (Below b1.heap.size b1 w'))
        (first | exact hS0J.out | exact hSJ1.out | exact hSJ2.out | exact hSJ3.out)
        (first
          | (go_at_call 36; ((with_reducible refine (tosAc_any _ L0 _ (hrd0.out.below (Below.drew hk.out)) h200).mono ?_); rintro e wJ1 ⟨t0, rfl, ht0, hbT0⟩; go_split_ands; have hSJ1 := Lib.hid (HSJ.out _ (below_trans' (Hid.out (by assumption)) hbT0)); have hg_J1 := Lib.hid (OwnG.grown (OwnG.grown hg.out (Below.drew (Below.refl _ _))) hbT0); have hB_J1 := Lib.hid (below_trans' (Below.drew hB.out) hbT0); have hk_J1 := Lib.hid (below_trans' (Below.drew hk.out) hbT0); have ht0_J1 := Lib.hid (OwnG.rd ht0)))
          | (go_at_call 39; ((with_reducible refine (toAc_any name1 feed1 sign1 _).mono ?_); rintro e wJ2 ⟨rfl, hbT1⟩; go_split_ands; have hSJ2 := Lib.hid (HSJ.out _ (below_trans' (Hid.out (by assumption)) hbT1)); have hg_J2 := Lib.hid (OwnG.grown hg_J1.out hbT1); have ht0_J2 := Lib.hid (ht0_J1.out.below hbT1); have hB_J2 := Lib.hid (below_trans' hB_J1.out hbT1); have hk_J2 := Lib.hid (below_trans' hk_J1.out hbT1)))
          | (go_at_call 28; ((with_reducible refine (acI_add t0 L0 name1 feed1 sign1 _ ht0_J2.out hfit0 hfit1).mono ?_); rintro e wJ3 ⟨h, rfl, hh, hbF⟩; go_split_ands; have hSJ3 := Lib.hid (HSJ.out _ (below_trans' (Hid.out (by assumption)) hbF)); have hg_J3 := Lib.hid (OwnG.grown hg_J2.out hbF); have ht0_J3 := Lib.hid (ht0_J2.out.below hbF); have hB_J3 := Lib.hid (below_trans' hB_J2.out hbF); have hk_J3 := Lib.hid (below_trans' hk_J2.out hbF))))
      go_split_ands
      rename Hid (Below b1.heap.size b1 _) => hNX
      replace hN := hNX
      replace hg := hg_J3
      replace hB := hB_J3
      replace hk := hk_J3
      rw [hMP.out] at hh ⊢
      replace hh := OwnG.rd hh
      go_wp2_with fail
      refine (eqsAc_any h u _ _ hh (hu.out.below hk.out)).mono ?_
      rintro e w23 ⟨rfl, hb23_⟩
      replace hg := Lib.hid (OwnG.grown hg.out hb23_)
      replace hB := Lib.hid (below_trans' hB.out hb23_)
      replace hN := Lib.hid (below_trans' hN.out hb23_)
      replace hk := Lib.hid (below_trans' hk.out hb23_)
      clear hb23_
      clear hh
      go_wp2_with fail
      refine (heldsAc_any g MP.1.length 1 _ (OwnG.rd hg.out) (by omega) (by omega)).mono ?_
      rintro e w24 ⟨rfl, hb24_⟩
      rw [hq0]
      replace hg := Lib.hid (OwnG.grown hg.out hb24_)
      replace hB := Lib.hid (below_trans' hB.out hb24_)
      replace hN := Lib.hid (below_trans' hN.out hb24_)
      replace hk := Lib.hid (below_trans' hk.out hb24_)
      clear hb24_
      go_wp2
      go_ret
      exact ⟨rfl, hB.out⟩
set_option maxRecDepth 100000 in
theorem lifted (os : Os) (started : os.Started) (H : Type) (enc : TypeId × Value → H) :
    ReturnsInHanded {} Try.checked os 12 .any (Rows.fnExactAddActorSpec.pre6 enc Try.prog Try.f12 Rows.fnExactAddActorRow.domain false) (Rows.fnExactAddActorSpec.post enc Try.prog Try.f12 false true false false) := by
  refine returnsInHanded_of_change (C := Try.checked) own started (by kernel_rfl) Try.func12
    (ChangeSpec.witness6 (enc := enc) (C := Try.checked) false ⟨#[], #[.slice none 0 0, .agg #[.string ByteArray.empty, .string ByteArray.empty, .int .i64 0]], []⟩ 8 (by kernel_rfl) (by kernel_rfl) (by kernel_rfl) (by kernel_rfl)) ?_
  intro W base args ds gs before hval0 hW hcnd _
  have hval : ∀ (j : Nat) t v, Try.f12.params[j]? = some t → args[j]? = some v → Value.okWide Try.prog W .any base t v := hval0
  have hW' := hW
  obtain ⟨p, q, hA0, hV, rfl, hfz, hnd⟩ := hW
  have hA : DataW.TrodAll enc Try.prog W 0 (fun _ => true) true Try.f12.params.toList args.toList ds p := hA0
  rw [Try.params12] at hA hval
  obtain ⟨v0, vs0, d0, ds0, p0, q0, hargs, rfl, rfl, h0, r0⟩ := trodAll_cons hA
  obtain ⟨v1, vs1, d1, ds1, p1, q1, rfl, rfl, rfl, h1, r1⟩ := trodAll_cons r0
  obtain ⟨rfl, rfl, rfl⟩ := trodAll_nil r1
  obtain rfl : args = #[v0, v1] := by cases args; simp_all
  obtain ⟨rfl, rfl⟩ := trodVars_none hV
  obtain ⟨a0, len0, cap0, rfl⟩ := okWide_slice Try.underlying45 (hval 0 45 v0 rfl rfl)
  have k0 := h0
  have lt0 : ∀ x ∈ p0, x.block < W.heap.size := by obtain ⟨m, hm⟩ := k0; exact DataW.trod_lt m _ _ _ hm
  obtain ⟨L0, w0⟩ : ∃ L, ArgLAc W a0 len0 cap0 L := by
    obtain ⟨fuel, hf⟩ := h0
    exact argLAc (by simp [Value.cells]) hf
  have k1 := h1
  have lt1 : ∀ x ∈ p1, x.block < W.heap.size := by obtain ⟨m, hm⟩ := k1; exact DataW.trod_lt m _ _ _ hm
  obtain ⟨name1, feed1, sign1, rfl, w1⟩ := argAc (hval 1 50 v1 rfl rfl) h1
  clear hA0 hval0
  refine (walk a0 len0 cap0 L0 name1 feed1 sign1 W w0 w1).mono fun e W' ⟨he, bel⟩ => ?_
  subst he
  exact ⟨_, rfl, _, _, _, [], _, [], hW', trodAll_mk1 (shut_bool Try.underlying4 _), (trodAll_cons_mk (Below.trod laidOut (by kernel_rfl) (of_decide_eq_true (by kernel_rfl)) k0 bel lt0) (trodAll_cons_mk (Below.trod laidOut (by kernel_rfl) (of_decide_eq_true (by kernel_rfl)) k1 bel lt1) trodAll_mk0)), rfl, bel.frame _, fun h => by cases h⟩
theorem over : Rows.fnExactAddActorRow.holds Try.pinned (OpenSpec.ofChange Rows.fnExactAddActorSpec) :=
  OpenClaim.holds_of_wide 12 Try.f12 rfl rfl rfl rfl rfl rfl rfl ⟨rfl, rfl, rfl, rfl, rfl⟩ rfl rfl rfl rfl rfl (by kernel_rfl) Try.func12 (by kernel_rfl)
    (of_decide_eq_true (by kernel_rfl)) (by unfold Func.isWrapper; first | (rw [if_pos (by decide +kernel)]; kernel_rfl) | (rw [if_neg (by decide +kernel)]; exact ⟨rfl, rfl⟩))
    (fun os started H enc _ => lifted os started H enc)
theorem proved : Rows.FnExactAddActorSaid := over
#print axioms proved
end Go.Proofs.Ytacapigdfabiiaa.fnExactAddActor
