/-
  'FnExactItemWith' answers true at every input, and each argument reads behind the call as before. Conditions: none.
-/
import Derived.Test.YteknjaocamlcpaaRows
import Derived.Test.YteknjaocamlcpaaGu
import Derived.Test.YteknjaocamlcpaaGr
import Derived.Test.YteknjaocamlcpaaGv
import Derived.WalkKit
import Derived.ProofKit
import Derived.Below
import Derived.Lib.Hide
import Derived.Outline
import Derived.BigQuiet
import Derived.Deep.QuietTactic
import Derived.Deep.Draws
import Derived.Laws.OwnMore
import Derived.Laws.Rows
import Derived.WalkSpells
import Derived.Deep.RegionWith
import Derived.OpenShut
import Derived.ShutString
import Derived.ChangeOld
namespace Go.Proofs.Yteknjaocamlcpaa.fnExactItemWith
open Go.ChangeShapes Go.WideShapes Go.ChangeAt Go.RowKit
open Go.ChangeMaps (open_string shut_string)
set_option linter.unusedVariables false
theorem own : ownKnob Try.prog.godebug = none := by kernel_rfl
theorem laidOut : laidOutB Try.prog = true := by kernel_rfl
set_option maxRecDepth 100000 in
set_option maxHeartbeats 4000000 in
theorem walk (a0 : Option Addr) (len0 cap0 : Nat) (L0 : List It) (a1 : ByteArray) (w : World) (w0 : ArgFL w a0 len0 cap0 L0) (w1 : a1.size ≤ maxLen) :
    Calls Try.prog 11 #[.slice a0 len0 cap0, .string a1] w fun e w' => e = .returned (.bool true) ∧ Below w.heap.size w w' := by
  obtain ⟨hlen, hrd, hmax⟩ := w0
  subst hlen
  unfold maxLen at w1
  by_cases hbig : 1048576 < a1.size
  · go_enter Try.func11, Try.ntmps11
    go_wp2
    go_ret
    exact ⟨rfl, Below.refl _ _⟩
  go_enter Try.func11, Try.ntmps11
  go_wp2_with fail
  refine (szIs_any _ L0 _ hrd hmax).mono ?_
  rintro e x1 ⟨r, rfl, hr1, hr2, hb1⟩
  have hrd1 := hrd.below hb1
  have hb1 := Lib.hid hb1
  by_cases hneg : r < 0
  · go_wp2
    go_ret
    exact ⟨rfl, hb1.out⟩
  · have hsz := hr2 (by omega)
    have hfit := fit_szF hsz
    have h20 := hsz.1
    clear hr2 hsz
    go_wp2_with fail
    refine (toIs_any _ L0 _ hrd1 h20).mono ?_
    rintro e x2 ⟨v2, rfl, hown2, hb2⟩
    have hrd2 := hrd1.below hb2
    have hrdv2 := OwnG.rd hown2
    have hb2 := Lib.hid (below_trans' hb1.out hb2)
    clear hown2
    obtain ⟨p, hp⟩ : ∃ p, itW L0 a1 = p := ⟨_, rfl⟩
    have hS := fun x v h => fdS_with v L0 a1 x h hfit
    have hI := fun x v h => fdI_with v L0 a1 x h hfit
    rw [hp] at hS hI
    obtain ⟨⟨ky, ti, bo, da⟩, ok⟩ := p
    have hI := Lib.hid hI
    clear hp
    go_wp2_with fail
    refine (hS x2 v2 hrdv2).mono ?_
    rintro e x3 ⟨rfl, hb3⟩
    have hrd3 := hrd2.below hb3
    have hb3 := Lib.hid (below_trans' hb2.out hb3)
    clear hS
    obtain ⟨y3, hy3⟩ : ∃ y3, x3.alloc (.cells #[.string ky, .string ti, .string bo, .int .i64 da] 28) = y3 := ⟨_, rfl⟩
    have hby : Below x3.heap.size x3 y3 := by rw [← hy3]; exact (Below.refl _ _).alloc (Nat.le_refl _) _
    have hrdy := hrd3.below hby
    have hby := Lib.hid (below_trans' hb3.out hby)
    have hrow3 := Lib.hid (fun wX hX => row4 (wX := wX) hy3 hX)
    go_wp2_with fail
    have hy3 := Lib.hid hy3
    refine (toIs_any _ L0 _ hrdy h20).mono ?_
    rintro e x4 ⟨v4, rfl, hown4, hb4⟩
    have hrd4 := hrdy.below hb4
    have hrdv4 := OwnG.rd hown4
    have hk4 := Lib.hid hb4
    have hb4 := Lib.hid (below_trans' hby.out hb4)
    clear hown4
    go_wp2_with fail
    refine (hI.out x4 v4 hrdv4).mono ?_
    rintro e x5 ⟨rfl, hb5⟩
    have hrd5 := hrd4.below hb5
    have hrdv5 := hrdv4.below hb5
    have hk5 := Lib.hid (below_trans' hk4.out hb5)
    have hb5 := Lib.hid (below_trans' hb4.out hb5)
    obtain ⟨y5, hy5⟩ : ∃ y5, x5.alloc (.cells #[.string ky, .string ti, .string bo, .int .i64 da] 28) = y5 := ⟨_, rfl⟩
    have hbz : Below x5.heap.size x5 y5 := by rw [← hy5]; exact (Below.refl _ _).alloc (Nat.le_refl _) _
    have hrdz := hrd5.below hbz
    have hrdvz := hrdv5.below hbz
    have hkz := Lib.hid (below_trans' hk5.out hbz)
    have hbz := Lib.hid (below_trans' hb5.out hbz)
    obtain ⟨d0, d1, d2, d3⟩ := row4 hy5 (Below.refl _ _)
    obtain ⟨f0, f1, f2, f3⟩ := hrow3.out _ hkz.out
    have qq : (ok == ok) = true := by simp
    go_wp2_with fail
    have hy5 := Lib.hid hy5
    refine (eqI_any ky ti bo da _).mono ?_
    rintro e x6 ⟨rfl, hb6⟩
    have hrd6 := hrdz.below hb6
    have hrdv6 := hrdvz.below hb6
    have hb6 := Lib.hid (below_trans' hbz.out hb6)
    go_wp2_with fail
    refine (toIs_any _ L0 _ hrd6 h20).mono ?_
    rintro e x7 ⟨v7, rfl, hown7, hb7⟩
    have hrdv7 := OwnG.rd hown7
    have hrdv67 := hrdv6.below hb7
    have hb7 := Lib.hid (below_trans' hb6.out hb7)
    clear hown7
    go_wp2_with fail
    refine (eqIs_any v4 v7 L0 _ hrdv67 hrdv7).mono ?_
    rintro e x8 ⟨rfl, hb8⟩
    have hb8 := Lib.hid (below_trans' hb7.out hb8)
    go_wp2
    go_ret
    exact ⟨rfl, hb8.out⟩
set_option maxRecDepth 100000 in
theorem lifted (os : Os) (started : os.Started) (H : Type) (enc : TypeId × Value → H) :
    ReturnsInHanded {} Try.checked os 11 .any (Rows.fnExactItemWithSpec.pre6 enc Try.prog Try.f11 Rows.fnExactItemWithRow.domain false) (Rows.fnExactItemWithSpec.post enc Try.prog Try.f11 false true false false) := by
  refine returnsInHanded_of_change (C := Try.checked) own started (by kernel_rfl) Try.func11
    (ChangeSpec.witness6 (enc := enc) (C := Try.checked) false ⟨#[], #[.slice none 0 0, .string ByteArray.empty], []⟩ 8 (by kernel_rfl) (by kernel_rfl) (by kernel_rfl) (by kernel_rfl)) ?_
  intro W base args ds gs before hval0 hW hcnd _
  have hval : ∀ (j : Nat) t v, Try.f11.params[j]? = some t → args[j]? = some v → Value.okWide Try.prog W .any base t v := hval0
  have hW' := hW
  obtain ⟨p, q, hA0, hV, rfl, hfz, hnd⟩ := hW
  have hA : DataW.TrodAll enc Try.prog W 0 (fun _ => true) true Try.f11.params.toList args.toList ds p := hA0
  rw [Try.params11] at hA hval
  obtain ⟨v0, vs0, d0, ds0, p0, q0, hargs, rfl, rfl, h0, r0⟩ := trodAll_cons hA
  obtain ⟨v1, vs1, d1, ds1, p1, q1, rfl, rfl, rfl, h1, r1⟩ := trodAll_cons r0
  obtain ⟨rfl, rfl, rfl⟩ := trodAll_nil r1
  obtain rfl : args = #[v0, v1] := by cases args; simp_all
  obtain ⟨rfl, rfl⟩ := trodVars_none hV
  obtain ⟨a0, len0, cap0, rfl⟩ := okWide_slice Try.underlying41 (hval 0 41 v0 rfl rfl)
  have k0 := h0
  have lt0 : ∀ x ∈ p0, x.block < W.heap.size := by obtain ⟨m, hm⟩ := k0; exact DataW.trod_lt m _ _ _ hm
  obtain ⟨L0, w0⟩ : ∃ L, ArgFL W a0 len0 cap0 L := by
    obtain ⟨fuel, hf⟩ := h0
    exact argF (by simp [Value.cells]) hf
  have k1 := h1
  have lt1 : ∀ x ∈ p1, x.block < W.heap.size := by obtain ⟨m, hm⟩ := k1; exact DataW.trod_lt m _ _ _ hm
  obtain ⟨a1, rfl, _, _, w1⟩ := open_string Try.underlying9 (hval 1 9 v1 rfl rfl) h1
  clear hA0 hval0
  refine (walk a0 len0 cap0 L0 a1 W w0 w1).mono fun e W' ⟨he, bel⟩ => ?_
  subst he
  exact ⟨_, rfl, _, _, _, [], _, [], hW', trodAll_mk1 (shut_bool Try.underlying4 _), (trodAll_cons_mk (Below.trod laidOut (by kernel_rfl) (of_decide_eq_true (by kernel_rfl)) k0 bel lt0) (trodAll_cons_mk (Below.trod laidOut (by kernel_rfl) (of_decide_eq_true (by kernel_rfl)) k1 bel lt1) trodAll_mk0)), rfl, bel.frame _, fun h => by cases h⟩
theorem over : Rows.fnExactItemWithRow.holds Try.pinned (OpenSpec.ofChange Rows.fnExactItemWithSpec) :=
  OpenClaim.holds_of_wide 11 Try.f11 rfl rfl rfl rfl rfl rfl rfl ⟨rfl, rfl, rfl, rfl, rfl⟩ rfl rfl rfl rfl rfl (by kernel_rfl) Try.func11 (by kernel_rfl)
    (of_decide_eq_true (by kernel_rfl)) (by unfold Func.isWrapper; first | (rw [if_pos (by decide +kernel)]; kernel_rfl) | (rw [if_neg (by decide +kernel)]; exact ⟨rfl, rfl⟩))
    (fun os started H enc _ => lifted os started H enc)
theorem proved : Rows.FnExactItemWithSaid := over
#print axioms proved
end Go.Proofs.Yteknjaocamlcpaa.fnExactItemWith
