/-
  'FnExactReadFeed' answers true at every input, and each argument reads behind the call as before. Conditions: none.
-/
import Derived.Test.YteknjaocamlcpaaRows
import Derived.Test.YteknjaocamlcpaaGu
import Derived.Test.YteknjaocamlcpaaGr
import Derived.Test.YteknjaocamlcpaaGz
import Derived.Test.YteknjaocamlcpaaGv
import Derived.Test.YteknjaocamlcpaaGx
import Derived.WalkKit
import Derived.ProofKit
import Derived.Below
import Derived.Lib.Hide
import Derived.Outline
import Derived.BigQuiet
import Derived.Deep.QuietTactic
import Derived.Deep.Draws
import Derived.Laws.OwnMore
import Derived.Laws.Rows
import Derived.WalkSpells
import Derived.Deep.RegionWith
import Derived.OpenShut
import Derived.ShutString
import Derived.ChangeOld
namespace Go.Proofs.Yteknjaocamlcpaa.fnExactReadFeed
open Go.ChangeShapes Go.WideShapes Go.ChangeAt Go.RowKit
open Go.ChangeMaps (open_string shut_string)
set_option linter.unusedVariables false
theorem own : ownKnob Try.prog.godebug = none := by kernel_rfl
theorem laidOut : laidOutB Try.prog = true := by kernel_rfl
set_option maxRecDepth 100000 in
set_option maxHeartbeats 4000000 in
theorem walk (a0 : Option Addr) (len0 cap0 : Nat) (L0 : List ByteArray) (w : World) (w0 : ArgSL w a0 len0 cap0 L0) :
    Calls Try.prog 10 #[.slice a0 len0 cap0] w fun e w' => e = .returned (.bool true) ∧ Below w.heap.size w w' := by
  obtain ⟨hlen, hrd, hmax⟩ := w0
  subst hlen
  go_enter Try.func10, Try.ntmps10
  go_wp2_with fail
  refine (szSs_any _ L0 _ hrd hmax).mono ?_
  rintro e w1 ⟨r, rfl, hr1, hr2, hb1⟩
  have hrd1 := hrd.below hb1
  have hb1 := Lib.hid hb1
  by_cases hneg : r < 0
  · go_wp2
    go_ret
    exact ⟨rfl, hb1.out⟩
  · have hsz := hr2 (by omega)
    have hfit := fit_szS hsz
    have h20 := hsz.1
    clear hr2 hsz
    have hn8 : (rfF [] 0 L0).1.length ≤ 8 := by
      rcases rfF_inv (bad := 0) (ls := L0) fdB_nil with q | ⟨x, b, q, _, q3, _⟩
      · rw [q]; simp
      · rw [q]; exact (fdB_of q3).1
    have hS := fun v x (h : RdG encS x v L0) => fdS_read v L0 x h hfit
    have hI := fun v x (h : RdG encS x v L0) => fdI_read v L0 x h hfit
    unfold GotRF at hS hI
    obtain ⟨P, hP⟩ : ∃ P, rfF [] 0 L0 = P := ⟨_, rfl⟩
    simp only [hP] at hS hI hn8
    obtain ⟨LL, z⟩ := P
    simp only at hS hI hn8
    have hS := Lib.hid hS
    have hI := Lib.hid hI
    clear hP hfit
    have zz : (z == z) = true := by simp
    go_wp2_with fail
    refine (toSs_any _ L0 _ hrd1 h20).mono ?_
    rintro e w2 ⟨v2, rfl, hown2, hb2⟩
    have hrd2 := hrd1.below hb2
    have hrdv2 := OwnG.rd hown2
    have hb2 := Lib.hid (below_trans' hb1.out hb2)
    clear hown2
    go_wp2_with fail
    refine (hS.out v2 _ hrdv2).mono ?_
    rintro e w3 ⟨u3, rfl, hownu3, hb3⟩
    have hrd3 := Lib.hid (hrd2.below hb3)
    have hrdu3 := Lib.hid (OwnG.rd hownu3)
    have hb3 := Lib.hid (below_trans' hb2.out hb3)
    clear hownu3
    go_wp2_with fail
    refine (toSs_any _ L0 _ hrd3.out h20).mono ?_
    rintro e w4 ⟨v4, rfl, hown4, hb4⟩
    have hown4 := Lib.hid hown4
    have hk4 := Lib.hid hb4
    go_wp2_with fail
    refine (hI.out v4 _ (OwnG.rd hown4.out)).mono ?_
    rintro e w5 ⟨g5, rfl, howng5, hb5⟩
    have hown5 := Lib.hid (OwnG.grown hown4.out hb5)
    have hk5 := Lib.hid (below_trans' hk4.out hb5)
    have howng5 := Lib.hid howng5
    clear hb5 hb4
    go_wp2_with fail
    refine (eqIs_any g5 u3 _ _ (OwnG.rd howng5.out) (hrdu3.out.below hk5.out)).mono ?_
    rintro e w6 ⟨rfl, hb6⟩
    have hown6 := Lib.hid (OwnG.grown hown5.out hb6)
    have howng6 := Lib.hid (OwnG.grown howng5.out hb6)
    have hk6 := Lib.hid (below_trans' hk5.out hb6)
    clear hb6
    go_wp2_with fail
    refine (toSs_any _ L0 _ (hrd3.out.below hk6.out) h20).mono ?_
    rintro e w7 ⟨v7, rfl, hown7, hb7⟩
    have hownx7 := Lib.hid (OwnG.grown hown6.out hb7)
    have howng7 := Lib.hid (OwnG.grown howng6.out hb7)
    have hk7 := Lib.hid (below_trans' hk6.out hb7)
    have hrdv7 := OwnG.rd hown7
    clear hown7 hb7
    go_wp2_with fail
    refine (eqSs_any v4 v7 L0 _ (OwnG.rd hownx7.out) hrdv7).mono ?_
    rintro e w8 ⟨rfl, n8, rfl⟩
    have hown8 := Lib.hid (OwnG.grown hownx7.out (below_drewN w7 n8))
    have howng8 := Lib.hid (OwnG.grown howng7.out (below_drewN w7 n8))
    have hk8 := Lib.hid (below_trans' hk7.out (below_drewN w7 n8))
    obtain ⟨w8, hw8⟩ : ∃ w8, w7.drewN n8 = w8 := ⟨_, rfl⟩
    rw [hw8] at hown8 howng8 hk8 ⊢
    clear hw8 hrdv7
    have t0 : decide (((1 + L0.length : Nat) : Int) < 0) = false := decide_eq_false (by omega)
    have t1 : ¬ (((1 + L0.length : Nat) : Int) < 0) := by omega
    have hblk := Lib.hid (fun k hk => (World.ownsRow.lt hown4.out k hk).2)
    have hsz34 := hk4.out.size
    go_wp2_with fail
    refine (markSs_row v4 L0 1 w3.heap.size _ hown8.out h20 (by omega)).mono ?_
    rintro e w9 ⟨rfl, _, hg9⟩
    have howng9 := Lib.hid (OwnG.row howng8.out hg9 (fun k hk => hblk.out k hk))
    have hk9 := Lib.hid (own_below hown8.out hk8.out hg9)
    clear hg9 hown8 howng8
    go_wp2_with fail
    refine (eqIs_any g5 u3 _ _ (OwnG.rd howng9.out) (hrdu3.out.below hk9.out)).mono ?_
    rintro e w10 ⟨rfl, hb10⟩
    have howng10 := Lib.hid (OwnG.grown howng9.out hb10)
    have hk10 := Lib.hid (below_trans' hk9.out hb10)
    clear hb10 howng9 hk9
    go_wp2_with fail
    refine (markIs_row g5 LL 1 w4.heap.size _ howng10.out (by omega) (by omega)).mono ?_
    rintro e w11 ⟨rfl, howng11, hg11⟩
    have hk11 := Lib.hid (own_below (OwnG.base howng10.out hsz34) hk10.out hg11)
    have howng11 := Lib.hid howng11
    clear hg11 howng10
    have q0 : (((1 + 4 * LL.length : Nat) : Int) == ((1 + 4 * LL.length : Nat) : Int)) = true := by simp
    have q1 : decide (((1 + 4 * LL.length : Nat) : Int) < 0) = false := decide_eq_false (by omega)
    have q2 : ¬ (((1 + 4 * LL.length : Nat) : Int) < 0) := by omega
    go_wp2_with fail
    refine (heldFs_any g5 LL.length 1 _ (OwnG.rd howng11.out) (by omega) (by omega)).mono ?_
    rintro e w12 ⟨rfl, hb12⟩
    have howng12 := Lib.hid (OwnG.grown howng11.out hb12)
    have hk12 := Lib.hid (below_trans' hk11.out hb12)
    clear hb12 howng11
    go_wp2_with fail
    refine (toSs_any _ L0 _ (hrd3.out.below hk12.out) h20).mono ?_
    rintro e w13 ⟨v13, rfl, hown13, hb13⟩
    have howng13 := Lib.hid (OwnG.grown howng12.out hb13)
    have hk13 := Lib.hid (below_trans' hk12.out hb13)
    have hrd13 := OwnG.rd hown13
    clear hb13 hown13 howng12
    go_wp2_with fail
    refine (hI.out v13 _ hrd13).mono ?_
    rintro e w14 ⟨g14, rfl, hown14, hb14⟩
    have howng14 := Lib.hid (OwnG.grown howng13.out hb14)
    have hk14 := Lib.hid (below_trans' hk13.out hb14)
    have hrd14 := OwnG.rd hown14
    clear hb14 hown14 howng13 hrd13
    go_wp2_with fail
    refine (eqIs_any g14 u3 _ _ hrd14 (hrdu3.out.below hk14.out)).mono ?_
    rintro e w15 ⟨rfl, hb15⟩
    have howng15 := Lib.hid (OwnG.grown howng14.out hb15)
    have hk15 := Lib.hid (below_trans' hk14.out hb15)
    clear hb15 howng14 hrd14
    go_wp2_with fail
    refine (heldFs_any g5 LL.length 1 _ (OwnG.rd howng15.out) (by omega) (by omega)).mono ?_
    rintro e w16 ⟨rfl, hb16⟩
    have hk16 := Lib.hid (below_trans' hk15.out hb16)
    go_wp2
    go_ret
    exact ⟨rfl, below_trans' hb3.out hk16.out⟩
set_option maxRecDepth 100000 in
theorem lifted (os : Os) (started : os.Started) (H : Type) (enc : TypeId × Value → H) :
    ReturnsInHanded {} Try.checked os 10 .any (Rows.fnExactReadFeedSpec.pre6 enc Try.prog Try.f10 Rows.fnExactReadFeedRow.domain false) (Rows.fnExactReadFeedSpec.post enc Try.prog Try.f10 false true false false) := by
  refine returnsInHanded_of_change (C := Try.checked) own started (by kernel_rfl) Try.func10
    (ChangeSpec.witness6 (enc := enc) (C := Try.checked) false ⟨#[], #[.slice none 0 0], []⟩ 8 (by kernel_rfl) (by kernel_rfl) (by kernel_rfl) (by kernel_rfl)) ?_
  intro W base args ds gs before hval0 hW hcnd _
  have hval : ∀ (j : Nat) t v, Try.f10.params[j]? = some t → args[j]? = some v → Value.okWide Try.prog W .any base t v := hval0
  have hW' := hW
  obtain ⟨p, q, hA0, hV, rfl, hfz, hnd⟩ := hW
  have hA : DataW.TrodAll enc Try.prog W 0 (fun _ => true) true Try.f10.params.toList args.toList ds p := hA0
  rw [Try.params10] at hA hval
  obtain ⟨v0, vs0, d0, ds0, p0, q0, hargs, rfl, rfl, h0, r0⟩ := trodAll_cons hA
  obtain ⟨rfl, rfl, rfl⟩ := trodAll_nil r0
  obtain rfl : args = #[v0] := by cases args; simp_all
  obtain ⟨rfl, rfl⟩ := trodVars_none hV
  obtain ⟨a0, len0, cap0, rfl⟩ := okWide_slice Try.underlying30 (hval 0 30 v0 rfl rfl)
  have k0 := h0
  have lt0 : ∀ x ∈ p0, x.block < W.heap.size := by obtain ⟨m, hm⟩ := k0; exact DataW.trod_lt m _ _ _ hm
  obtain ⟨L0, w0⟩ : ∃ L, ArgSL W a0 len0 cap0 L := by
    obtain ⟨fuel, hf⟩ := h0
    exact argS (by simp [Value.cells]) hf
  clear hA0 hval0
  refine (walk a0 len0 cap0 L0 W w0).mono fun e W' ⟨he, bel⟩ => ?_
  subst he
  exact ⟨_, rfl, _, _, _, [], _, [], hW', trodAll_mk1 (shut_bool Try.underlying4 _), (trodAll_cons_mk (Below.trod laidOut (by kernel_rfl) (of_decide_eq_true (by kernel_rfl)) k0 bel lt0) trodAll_mk0), rfl, bel.frame _, fun h => by cases h⟩
theorem over : Rows.fnExactReadFeedRow.holds Try.pinned (OpenSpec.ofChange Rows.fnExactReadFeedSpec) :=
  OpenClaim.holds_of_wide 10 Try.f10 rfl rfl rfl rfl rfl rfl rfl ⟨rfl, rfl, rfl, rfl, rfl⟩ rfl rfl rfl rfl rfl (by kernel_rfl) Try.func10 (by kernel_rfl)
    (of_decide_eq_true (by kernel_rfl)) (by unfold Func.isWrapper; first | (rw [if_pos (by decide +kernel)]; kernel_rfl) | (rw [if_neg (by decide +kernel)]; exact ⟨rfl, rfl⟩))
    (fun os started H enc _ => lifted os started H enc)
theorem proved : Rows.FnExactReadFeedSaid := over
#print axioms proved
end Go.Proofs.Yteknjaocamlcpaa.fnExactReadFeed
