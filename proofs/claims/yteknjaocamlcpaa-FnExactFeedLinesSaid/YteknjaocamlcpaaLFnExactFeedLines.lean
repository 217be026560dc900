/-
  'FnExactFeedLines' answers true at every input, and each argument reads behind the call as before. Conditions: none.
-/
import Derived.Test.YteknjaocamlcpaaRows
import Derived.Test.YteknjaocamlcpaaGu
import Derived.Test.YteknjaocamlcpaaGr
import Derived.Test.YteknjaocamlcpaaGz
import Derived.Test.YteknjaocamlcpaaGv
import Derived.WalkKit
import Derived.ProofKit
import Derived.Below
import Derived.Lib.Hide
import Derived.Outline
import Derived.BigQuiet
import Derived.Deep.QuietTactic
import Derived.Deep.Draws
import Derived.Laws.OwnMore
import Derived.Laws.Rows
import Derived.WalkSpells
import Derived.Deep.RegionWith
import Derived.OpenShut
import Derived.ShutString
import Derived.ChangeOld
namespace Go.Proofs.Yteknjaocamlcpaa.fnExactFeedLines
open Go.ChangeShapes Go.WideShapes Go.ChangeAt Go.RowKit
open Go.ChangeMaps (open_string shut_string)
set_option linter.unusedVariables false
theorem own : ownKnob Try.prog.godebug = none := by kernel_rfl
theorem laidOut : laidOutB Try.prog = true := by kernel_rfl
set_option maxRecDepth 100000 in
set_option maxHeartbeats 4000000 in
theorem walk (a0 : Option Addr) (len0 cap0 : Nat) (L0 : List It) (w : World) (w0 : ArgFL w a0 len0 cap0 L0) :
    Calls Try.prog 9 #[.slice a0 len0 cap0] w fun e w' => e = .returned (.bool true) ∧ Below w.heap.size w w' := by
  obtain ⟨hlen, hrd, hmax⟩ := w0
  subst hlen
  go_enter Try.func9, Try.ntmps9
  go_wp2_with fail
  refine (szIs_any _ L0 _ hrd hmax).mono ?_
  rintro e w1 ⟨r, rfl, hr1, hr2, hb1⟩
  have hrd1 := hrd.below hb1
  have hb1 := Lib.hid hb1
  by_cases hneg : r < 0
  · go_wp2
    go_ret
    exact ⟨rfl, hb1.out⟩
  · have hsz := hr2 (by omega)
    have hfit := fit_szF hsz
    have h20 := hsz.1
    clear hr2 hsz
    go_wp2_with fail
    refine (toIs_any _ L0 _ hrd1 h20).mono ?_
    rintro e w2 ⟨v2, rfl, hown2, hb2⟩
    have hrd2 := hrd1.below hb2
    have hrdv2 := OwnG.rd hown2
    have hb2 := Lib.hid (below_trans' hb1.out hb2)
    clear hown2
    go_wp2_with fail
    refine (fdS_lines v2 L0 _ hrdv2 hfit).mono ?_
    rintro e w3 ⟨u3, rfl, hownu3, hb3⟩
    have hrd3 := Lib.hid (hrd2.below hb3)
    have hrdu3 := Lib.hid (OwnG.rd hownu3)
    have hb3 := Lib.hid (below_trans' hb2.out hb3)
    clear hownu3
    -- behind here all that was there before (the argument, the expected texts) is kept: Below w3
    go_wp2_with fail
    refine (toIs_any _ L0 _ hrd3.out h20).mono ?_
    rintro e w4 ⟨v4, rfl, hown4, hb4⟩
    have hown4 := Lib.hid hown4
    have hk4 := Lib.hid hb4
    go_wp2_with fail
    refine (fdI_lines v4 L0 _ (OwnG.rd hown4.out) hfit).mono ?_
    rintro e w5 ⟨g5, rfl, howng5, hb5⟩
    have hown5 := Lib.hid (OwnG.grown hown4.out hb5)
    have hk5 := Lib.hid (below_trans' hk4.out hb5)
    have howng5 := Lib.hid howng5
    clear hb5 hb4
    go_wp2_with fail
    refine (eqSs_any g5 u3 _ _ (OwnG.rd howng5.out) (hrdu3.out.below hk5.out)).mono ?_
    rintro e w6 ⟨rfl, n6, rfl⟩
    have hown6 := Lib.hid (OwnG.grown hown5.out (below_drewN w5 n6))
    have howng6 := Lib.hid (OwnG.grown howng5.out (below_drewN w5 n6))
    have hk6 := Lib.hid (below_trans' hk5.out (below_drewN w5 n6))
    obtain ⟨w6, hw6⟩ : ∃ w6, w5.drewN n6 = w6 := ⟨_, rfl⟩
    rw [hw6] at hown6 howng6 hk6 ⊢
    clear hw6
    go_wp2_with fail
    refine (toIs_any _ L0 _ (hrd3.out.below hk6.out) h20).mono ?_
    rintro e w7 ⟨v7, rfl, hown7, hb7⟩
    have hownx7 := Lib.hid (OwnG.grown hown6.out hb7)
    have howng7 := Lib.hid (OwnG.grown howng6.out hb7)
    have hk7 := Lib.hid (below_trans' hk6.out hb7)
    have hrdv7 := OwnG.rd hown7
    clear hown7 hb7
    go_wp2_with fail
    refine (eqIs_any v4 v7 L0 _ (OwnG.rd hownx7.out) hrdv7).mono ?_
    rintro e w8 ⟨rfl, hb8⟩
    have hown8 := Lib.hid (OwnG.grown hownx7.out hb8)
    have howng8 := Lib.hid (OwnG.grown howng7.out hb8)
    have hk8 := Lib.hid (below_trans' hk7.out hb8)
    clear hb8 hrdv7
    have hn8 : (fdL L0).length ≤ 8 := by
      unfold fdL; split
      · rename_i q; rw [List.length_map]; exact (fdB_of q).1
      · simp
    have t0 : decide (((1 + 4 * L0.length : Nat) : Int) < 0) = false := decide_eq_false (by omega)
    have t1 : ¬ (((1 + 4 * L0.length : Nat) : Int) < 0) := by omega
    have hblk := Lib.hid (fun k hk => (World.ownsRow.lt hown4.out k hk).2)
    have hsz34 := hk4.out.size
    go_wp2_with fail
    refine (markIs_row v4 L0 1 w3.heap.size _ hown8.out h20 (by omega)).mono ?_
    rintro e w9 ⟨rfl, _, hg9⟩
    have howng9 := Lib.hid (OwnG.row howng8.out hg9 (fun k hk => hblk.out k hk))
    have hk9 := Lib.hid (own_below hown8.out hk8.out hg9)
    clear hg9 hown8 howng8
    go_wp2_with fail
    refine (eqSs_any g5 u3 _ _ (OwnG.rd howng9.out) (hrdu3.out.below hk9.out)).mono ?_
    rintro e w10 ⟨rfl, n10, rfl⟩
    have howng10 := Lib.hid (OwnG.grown howng9.out (below_drewN w9 n10))
    have hk10 := Lib.hid (below_trans' hk9.out (below_drewN w9 n10))
    obtain ⟨w10, hw10⟩ : ∃ w10, w9.drewN n10 = w10 := ⟨_, rfl⟩
    rw [hw10] at howng10 hk10 ⊢
    clear hw10 howng9 hk9
    obtain ⟨LL, hLL⟩ : ∃ LL, fdL L0 = LL := ⟨_, rfl⟩
    have hLL := Lib.hid hLL
    rw [hLL.out] at howng10 hn8 hrdu3
    go_wp2_with fail
    refine (markSs_row g5 LL 1 w4.heap.size _ howng10.out (by omega) (by omega)).mono ?_
    rintro e w11 ⟨rfl, howng11, hg11⟩
    have hk11 := Lib.hid (own_below (OwnG.base howng10.out hsz34) hk10.out hg11)
    have howng11 := Lib.hid howng11
    clear hg11 howng10
    have q0 : (((1 + LL.length : Nat) : Int) == ((1 + LL.length : Nat) : Int)) = true := by simp
    have q1 : decide (((1 + LL.length : Nat) : Int) < 0) = false := decide_eq_false (by omega)
    have q2 : ¬ (((1 + LL.length : Nat) : Int) < 0) := by omega
    go_wp2_with fail
    refine (heldSs_any g5 LL.length 1 _ (OwnG.rd howng11.out) (by omega) (by omega)).mono ?_
    rintro e w12 ⟨rfl, hb12⟩
    have howng12 := Lib.hid (OwnG.grown howng11.out hb12)
    have hk12 := Lib.hid (below_trans' hk11.out hb12)
    clear hb12 howng11
    go_wp2_with fail
    refine (toIs_any _ L0 _ (hrd3.out.below hk12.out) h20).mono ?_
    rintro e w13 ⟨v13, rfl, hown13, hb13⟩
    have howng13 := Lib.hid (OwnG.grown howng12.out hb13)
    have hk13 := Lib.hid (below_trans' hk12.out hb13)
    have hrd13 := OwnG.rd hown13
    clear hb13 hown13 howng12
    go_wp2_with fail
    refine (fdI_lines v13 L0 _ hrd13 hfit).mono ?_
    rintro e w14 ⟨g14, rfl, hown14, hb14⟩
    have howng14 := Lib.hid (OwnG.grown howng13.out hb14)
    have hk14 := Lib.hid (below_trans' hk13.out hb14)
    have hrd14 := OwnG.rd hown14
    rw [hLL.out] at hrd14
    clear hb14 hown14 howng13 hrd13
    go_wp2_with fail
    refine (eqSs_any g14 u3 _ _ hrd14 (hrdu3.out.below hk14.out)).mono ?_
    rintro e w15 ⟨rfl, n15, rfl⟩
    have howng15 := Lib.hid (OwnG.grown howng14.out (below_drewN w14 n15))
    have hk15 := Lib.hid (below_trans' hk14.out (below_drewN w14 n15))
    obtain ⟨w15, hw15⟩ : ∃ w15, w14.drewN n15 = w15 := ⟨_, rfl⟩
    rw [hw15] at howng15 hk15 ⊢
    clear hw15 howng14 hrd14
    go_wp2_with fail
    refine (heldSs_any g5 LL.length 1 _ (OwnG.rd howng15.out) (by omega) (by omega)).mono ?_
    rintro e w16 ⟨rfl, hb16⟩
    have hk16 := Lib.hid (below_trans' hk15.out hb16)
    go_wp2
    go_ret
    exact ⟨rfl, below_trans' hb3.out hk16.out⟩
set_option maxRecDepth 100000 in
theorem lifted (os : Os) (started : os.Started) (H : Type) (enc : TypeId × Value → H) :
    ReturnsInHanded {} Try.checked os 9 .any (Rows.fnExactFeedLinesSpec.pre6 enc Try.prog Try.f9 Rows.fnExactFeedLinesRow.domain false) (Rows.fnExactFeedLinesSpec.post enc Try.prog Try.f9 false true false false) := by
  refine returnsInHanded_of_change (C := Try.checked) own started (by kernel_rfl) Try.func9
    (ChangeSpec.witness6 (enc := enc) (C := Try.checked) false ⟨#[], #[.slice none 0 0], []⟩ 8 (by kernel_rfl) (by kernel_rfl) (by kernel_rfl) (by kernel_rfl)) ?_
  intro W base args ds gs before hval0 hW hcnd _
  have hval : ∀ (j : Nat) t v, Try.f9.params[j]? = some t → args[j]? = some v → Value.okWide Try.prog W .any base t v := hval0
  have hW' := hW
  obtain ⟨p, q, hA0, hV, rfl, hfz, hnd⟩ := hW
  have hA : DataW.TrodAll enc Try.prog W 0 (fun _ => true) true Try.f9.params.toList args.toList ds p := hA0
  rw [Try.params9] at hA hval
  obtain ⟨v0, vs0, d0, ds0, p0, q0, hargs, rfl, rfl, h0, r0⟩ := trodAll_cons hA
  obtain ⟨rfl, rfl, rfl⟩ := trodAll_nil r0
  obtain rfl : args = #[v0] := by cases args; simp_all
  obtain ⟨rfl, rfl⟩ := trodVars_none hV
  obtain ⟨a0, len0, cap0, rfl⟩ := okWide_slice Try.underlying41 (hval 0 41 v0 rfl rfl)
  have k0 := h0
  have lt0 : ∀ x ∈ p0, x.block < W.heap.size := by obtain ⟨m, hm⟩ := k0; exact DataW.trod_lt m _ _ _ hm
  obtain ⟨L0, w0⟩ : ∃ L, ArgFL W a0 len0 cap0 L := by
    obtain ⟨fuel, hf⟩ := h0
    exact argF (by simp [Value.cells]) hf
  clear hA0 hval0
  refine (walk a0 len0 cap0 L0 W w0).mono fun e W' ⟨he, bel⟩ => ?_
  subst he
  exact ⟨_, rfl, _, _, _, [], _, [], hW', trodAll_mk1 (shut_bool Try.underlying4 _), (trodAll_cons_mk (Below.trod laidOut (by kernel_rfl) (of_decide_eq_true (by kernel_rfl)) k0 bel lt0) trodAll_mk0), rfl, bel.frame _, fun h => by cases h⟩
theorem over : Rows.fnExactFeedLinesRow.holds Try.pinned (OpenSpec.ofChange Rows.fnExactFeedLinesSpec) :=
  OpenClaim.holds_of_wide 9 Try.f9 rfl rfl rfl rfl rfl rfl rfl ⟨rfl, rfl, rfl, rfl, rfl⟩ rfl rfl rfl rfl rfl (by kernel_rfl) Try.func9 (by kernel_rfl)
    (of_decide_eq_true (by kernel_rfl)) (by unfold Func.isWrapper; first | (rw [if_pos (by decide +kernel)]; kernel_rfl) | (rw [if_neg (by decide +kernel)]; exact ⟨rfl, rfl⟩))
    (fun os started H enc _ => lifted os started H enc)
theorem proved : Rows.FnExactFeedLinesSaid := over
#print axioms proved
end Go.Proofs.Yteknjaocamlcpaa.fnExactFeedLines
