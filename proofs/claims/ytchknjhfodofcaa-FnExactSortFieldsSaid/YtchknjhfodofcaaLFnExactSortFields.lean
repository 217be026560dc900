/-
  'FnExactSortFields' answers true at every input, and each argument reads behind the call as before. Conditions: none.
-/
import Derived.Test.YtchknjhfodofcaaRows
import Derived.Test.YtchknjhfodofcaaHO
import Derived.Test.YtchknjhfodofcaaHJ
import Derived.WalkKit
import Derived.ProofKit
import Derived.Below
import Derived.Lib.Hide
import Derived.Outline
import Derived.BigQuiet
import Derived.Deep.QuietTactic
import Derived.Deep.Draws
import Derived.Laws.OwnMore
import Derived.Laws.Rows
import Derived.WalkSpells
import Derived.Deep.RegionWith
import Derived.OpenShut
import Derived.ShutString
import Derived.ChangeOld
namespace Go.Proofs.Ytchknjhfodofcaa.fnExactSortFields
open Go.ChangeShapes Go.WideShapes Go.ChangeAt Go.RowKit
open Go.ChangeMaps (open_string shut_string)
set_option linter.unusedVariables false
theorem own : ownKnob Try.prog.godebug = none := by kernel_rfl
theorem laidOut : laidOutB Try.prog = true := by kernel_rfl
set_option maxRecDepth 100000 in
set_option maxHeartbeats 4000000 in
theorem walk (a0 : Option Addr) (len0 cap0 : Nat) (L0 : List Fd) (w : World) (w0 : ArgLFd w a0 len0 cap0 L0) :
    Calls Try.prog 8 #[.slice a0 len0 cap0] w fun e w' => e = .returned (.bool true) ∧ Below w.heap.size w w' := by
  obtain ⟨hlen0, hrd0, hmax0⟩ := w0
  subst hlen0
  have hrd0 := Lib.hid hrd0
  have hB := Lib.hid (Below.refl w.heap.size w)
  go_enter Try.func8, Try.ntmps8
  go_wp2_with fail
  refine (szsFd_any _ L0 1048576 _ hrd0.out hmax0 (by omega) (by omega)).mono ?_
  rintro e w11 ⟨r0, rfl, hr0, hs_0, hb11_⟩
  replace hrd0 := Lib.hid (hrd0.out.below hb11_)
  replace hB := Lib.hid (below_trans' hB.out hb11_)
  clear hb11_
  by_cases hneg0 : r0 < 0
  · go_wp2
    go_ret
    exact ⟨rfl, hB.out⟩
  · have hsz0 := hs_0 (by omega)
    have hfit0 := fitFd_szs hsz0
    have h200 := lenFd_szs hsz0
    clear hs_0 hsz0
    go_wp2_with fail
    refine (tosFd_any _ L0 _ hrd0.out h200).mono ?_
    rintro e w12 ⟨t0, rfl, ht0, hb12_⟩
    replace hrd0 := Lib.hid (hrd0.out.below hb12_)
    replace hB := Lib.hid (below_trans' hB.out hb12_)
    replace ht0 := Lib.hid (OwnG.rd ht0)
    clear hb12_
    go_wp2_with fail
    refine (flS_sort t0 L0 _ ht0.out hfit0).mono ?_
    rintro e w13 ⟨u, rfl, hu, hbF⟩
    replace hrd0 := Lib.hid (hrd0.out.below hbF)
    replace ht0 := Lib.hid (ht0.out.below hbF)
    replace hB := Lib.hid (below_trans' hB.out hbF)
    clear hbF
    clear ht0
    have hbound : (soF L0).length ≤ 100 := Nat.le_trans (soF_6 L0) (by omega)
    obtain ⟨MP, hMP⟩ : ∃ MP, soF L0 = MP := ⟨_, rfl⟩
    replace hMP := Lib.hid hMP
    rw [hMP.out] at hu hbound
    replace hu := Lib.hid (OwnG.rd hu)
    have hk := Lib.hid (Below.refl w13.heap.size w13)
    have hB0 := hB
    go_wp2_with fail
    refine (tosFd_any _ L0 _ (hrd0.out.below hk.out) h200).mono ?_
    rintro e w14 ⟨x0, rfl, hx0, hb14_⟩
    have hlo0 : Hid (w13.heap.size ≤ w13.heap.size) := Lib.hid hk.out.size
    have hblk0 := Lib.hid (fun k hk => (World.ownsRow.lt hx0 k hk).2)
    have hge0 := Lib.hid (OwnG.ge hx0)
    replace hB := Lib.hid (below_trans' hB.out hb14_)
    replace hk := Lib.hid (below_trans' hk.out hb14_)
    replace hx0 := Lib.hid hx0
    clear hb14_
    have hz0 := Lib.hid (Below.refl w14.heap.size w14)
    have hup0_g := Lib.hid hz0.out.size
    have hlog := Lib.hid hk.out.size
    go_wp2_with fail
    refine (flI_sort x0 L0 _ (OwnG.rd hx0.out) hfit0).mono ?_
    rintro e w15 ⟨g, rfl, hg, hbF⟩
    replace hx0 := Lib.hid (OwnG.grown hx0.out hbF)
    replace hB := Lib.hid (below_trans' hB.out hbF)
    replace hk := Lib.hid (below_trans' hk.out hbF)
    replace hz0 := Lib.hid (below_trans' hz0.out hbF)
    clear hbF
    clear hz0
    rw [hMP.out] at hg
    replace hg := Lib.hid hg
    go_wp2_with fail
    refine (eqsFd_any g u _ _ (OwnG.rd hg.out) (hu.out.below hk.out)).mono ?_
    rintro e w16 ⟨rfl, hb16_⟩
    replace hx0 := Lib.hid (OwnG.grown hx0.out hb16_)
    replace hg := Lib.hid (OwnG.grown hg.out hb16_)
    replace hB := Lib.hid (below_trans' hB.out hb16_)
    replace hk := Lib.hid (below_trans' hk.out hb16_)
    clear hb16_
    go_wp2_with fail
    refine (tosFd_any _ L0 _ (hrd0.out.below hk.out) h200).mono ?_
    rintro e w17 ⟨s0, rfl, hs0, hb17_⟩
    replace hx0 := Lib.hid (OwnG.grown hx0.out hb17_)
    replace hg := Lib.hid (OwnG.grown hg.out hb17_)
    replace hB := Lib.hid (below_trans' hB.out hb17_)
    replace hk := Lib.hid (below_trans' hk.out hb17_)
    replace hs0 := OwnG.rd hs0
    clear hb17_
    go_wp2_with fail
    refine (eqsFd_any x0 s0 _ _ (OwnG.rd hx0.out) hs0).mono ?_
    rintro e w18 ⟨rfl, hb18_⟩
    replace hx0 := Lib.hid (OwnG.grown hx0.out hb18_)
    replace hg := Lib.hid (OwnG.grown hg.out hb18_)
    replace hB := Lib.hid (below_trans' hB.out hb18_)
    replace hk := Lib.hid (below_trans' hk.out hb18_)
    clear hb18_
    clear hs0
    go_wp2_with fail
    refine (marksFd_row x0 L0 1 _ _ hx0.out h200 (by omega)).mono ?_
    rintro e w19 ⟨rfl, _, hg19_⟩
    obtain ⟨m0, hm0⟩ : ∃ m, 1 + 2 * L0.length = m := ⟨_, rfl⟩
    rw [hm0]
    have hbm0 : Below w13.heap.size w13 w19 := own_below' (OwnG.base hx0.out hlo0.out) hk.out hg19_
    replace hg := Lib.hid (OwnG.row hg.out hg19_ (fun k hk => Nat.lt_of_lt_of_le (hblk0.out k hk) hup0_g.out))
    replace hk := Lib.hid hbm0
    clear hg19_ hx0 hbm0
    replace hB := Lib.hid (below_trans' hB0.out hk.out)
    have t0 : decide ((m0 : Int) < 0) = false := decide_eq_false (by omega)
    have t1 : ¬ ((m0 : Int) < 0) := by omega
    go_wp2_with fail
    refine (eqsFd_any g u _ _ (OwnG.rd hg.out) (hu.out.below hk.out)).mono ?_
    rintro e w20 ⟨rfl, hb20_⟩
    replace hg := Lib.hid (OwnG.grown hg.out hb20_)
    replace hB := Lib.hid (below_trans' hB.out hb20_)
    replace hk := Lib.hid (below_trans' hk.out hb20_)
    clear hb20_
    go_wp2_with fail
    refine (marksFd_row g MP 1 _ _ hg.out (by omega) (by omega)).mono ?_
    rintro e w21 ⟨rfl, hgm, hg21_⟩
    obtain ⟨q0, hq0⟩ : ∃ q, 1 + 2 * MP.length = q := ⟨_, rfl⟩
    rw [hq0]
    have hbm : Below w13.heap.size w13 w21 := own_below' (OwnG.base hg.out hlog.out) hk.out hg21_
    replace hk := Lib.hid hbm
    replace hg := Lib.hid hgm
    clear hgm hg21_ hbm
    replace hB := Lib.hid (below_trans' hB0.out hk.out)
    have q1 : ((q0 : Int) == (q0 : Int)) = true := by simp
    have q2 : decide ((q0 : Int) < 0) = false := decide_eq_false (by omega)
    have q3 : ¬ ((q0 : Int) < 0) := by omega
    go_wp2_with fail
    refine (heldsFd_any g MP.length 1 _ (OwnG.rd hg.out) (by omega) (by omega)).mono ?_
    rintro e w22 ⟨rfl, hb22_⟩
    rw [hq0]
    replace hg := Lib.hid (OwnG.grown hg.out hb22_)
    replace hB := Lib.hid (below_trans' hB.out hb22_)
    replace hk := Lib.hid (below_trans' hk.out hb22_)
    clear hb22_
    go_wp2_with fail
    refine (tosFd_any _ L0 _ (hrd0.out.below hk.out) h200).mono ?_
    rintro e w23 ⟨t0, rfl, ht0, hb23_⟩
    replace hg := Lib.hid (OwnG.grown hg.out hb23_)
    replace hB := Lib.hid (below_trans' hB.out hb23_)
    replace hk := Lib.hid (below_trans' hk.out hb23_)
    replace ht0 := Lib.hid (OwnG.rd ht0)
    clear hb23_
    go_wp2_with fail
    refine (flI_sort t0 L0 _ ht0.out hfit0).mono ?_
    rintro e w24 ⟨h, rfl, hh, hbF⟩
    replace hg := Lib.hid (OwnG.grown hg.out hbF)
    replace ht0 := Lib.hid (ht0.out.below hbF)
    replace hB := Lib.hid (below_trans' hB.out hbF)
    replace hk := Lib.hid (below_trans' hk.out hbF)
    clear hbF
    clear ht0
    rw [hMP.out] at hh
    replace hh := OwnG.rd hh
    go_wp2_with fail
    refine (eqsFd_any h u _ _ hh (hu.out.below hk.out)).mono ?_
    rintro e w25 ⟨rfl, hb25_⟩
    replace hg := Lib.hid (OwnG.grown hg.out hb25_)
    replace hB := Lib.hid (below_trans' hB.out hb25_)
    replace hk := Lib.hid (below_trans' hk.out hb25_)
    clear hb25_
    clear hh
    go_wp2_with fail
    refine (heldsFd_any g MP.length 1 _ (OwnG.rd hg.out) (by omega) (by omega)).mono ?_
    rintro e w26 ⟨rfl, hb26_⟩
    rw [hq0]
    replace hg := Lib.hid (OwnG.grown hg.out hb26_)
    replace hB := Lib.hid (below_trans' hB.out hb26_)
    replace hk := Lib.hid (below_trans' hk.out hb26_)
    clear hb26_
    go_wp2
    go_ret
    exact ⟨rfl, hB.out⟩
set_option maxRecDepth 100000 in
theorem lifted (os : Os) (started : os.Started) (H : Type) (enc : TypeId × Value → H) :
    ReturnsInHanded {} Try.checked os 8 .any (Rows.fnExactSortFieldsSpec.pre6 enc Try.prog Try.f8 Rows.fnExactSortFieldsRow.domain false) (Rows.fnExactSortFieldsSpec.post enc Try.prog Try.f8 false true false false) := by
  refine returnsInHanded_of_change (C := Try.checked) own started (by kernel_rfl) Try.func8
    (ChangeSpec.witness6 (enc := enc) (C := Try.checked) false ⟨#[], #[.slice none 0 0], []⟩ 8 (by kernel_rfl) (by kernel_rfl) (by kernel_rfl) (by kernel_rfl)) ?_
  intro W base args ds gs before hval0 hW hcnd _
  have hval : ∀ (j : Nat) t v, Try.f8.params[j]? = some t → args[j]? = some v → Value.okWide Try.prog W .any base t v := hval0
  have hW' := hW
  obtain ⟨p, q, hA0, hV, rfl, hfz, hnd⟩ := hW
  have hA : DataW.TrodAll enc Try.prog W 0 (fun _ => true) true Try.f8.params.toList args.toList ds p := hA0
  rw [Try.params8] at hA hval
  obtain ⟨v0, vs0, d0, ds0, p0, q0, hargs, rfl, rfl, h0, r0⟩ := trodAll_cons hA
  obtain ⟨rfl, rfl, rfl⟩ := trodAll_nil r0
  obtain rfl : args = #[v0] := by cases args; simp_all
  obtain ⟨rfl, rfl⟩ := trodVars_none hV
  obtain ⟨a0, len0, cap0, rfl⟩ := okWide_slice Try.underlying36 (hval 0 36 v0 rfl rfl)
  have k0 := h0
  have lt0 : ∀ x ∈ p0, x.block < W.heap.size := by obtain ⟨m, hm⟩ := k0; exact DataW.trod_lt m _ _ _ hm
  obtain ⟨L0, w0⟩ : ∃ L, ArgLFd W a0 len0 cap0 L := by
    obtain ⟨fuel, hf⟩ := h0
    exact argLFd (by simp [Value.cells]) hf
  clear hA0 hval0
  refine (walk a0 len0 cap0 L0 W w0).mono fun e W' ⟨he, bel⟩ => ?_
  subst he
  exact ⟨_, rfl, _, _, _, [], _, [], hW', trodAll_mk1 (shut_bool Try.underlying4 _), (trodAll_cons_mk (Below.trod laidOut (by kernel_rfl) (of_decide_eq_true (by kernel_rfl)) k0 bel lt0) trodAll_mk0), rfl, bel.frame _, fun h => by cases h⟩
theorem over : Rows.fnExactSortFieldsRow.holds Try.pinned (OpenSpec.ofChange Rows.fnExactSortFieldsSpec) :=
  OpenClaim.holds_of_wide 8 Try.f8 rfl rfl rfl rfl rfl rfl rfl ⟨rfl, rfl, rfl, rfl, rfl⟩ rfl rfl rfl rfl rfl (by kernel_rfl) Try.func8 (by kernel_rfl)
    (of_decide_eq_true (by kernel_rfl)) (by unfold Func.isWrapper; first | (rw [if_pos (by decide +kernel)]; kernel_rfl) | (rw [if_neg (by decide +kernel)]; exact ⟨rfl, rfl⟩))
    (fun os started H enc _ => lifted os started H enc)
theorem proved : Rows.FnExactSortFieldsSaid := over
#print axioms proved
end Go.Proofs.Ytchknjhfodofcaa.fnExactSortFields
