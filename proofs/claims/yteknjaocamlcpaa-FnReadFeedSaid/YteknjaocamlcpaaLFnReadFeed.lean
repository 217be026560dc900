/-
  'FnReadFeed' answers true at every input, and each argument reads behind the call as before. Conditions: none.
  The frame is the kit's shell (proof-skeleton.mjs); the walk is the verifier's.
-/
import Derived.Test.YteknjaocamlcpaaRows
import Derived.Test.YteknjaocamlcpaaLawFd
import Derived.Test.YteknjaocamlcpaaGr
import Derived.Test.YteknjaocamlcpaaGv
import Derived.Test.YteknjaocamlcpaaGx
import Derived.Test.YteknjaocamlcpaaGy
import Derived.Test.YteknjaocamlcpaaGc
import Derived.Lib.Hide
import Derived.Outline
import Derived.BigQuiet
import Derived.Deep.QuietTactic
import Derived.Deep.Draws
import Derived.Laws.OwnMore
import Derived.Laws.Rows
import Derived.WalkSpells
import Derived.Deep.RegionWith
import Derived.WalkKit
import Derived.ProofKit
import Derived.OpenShut
import Derived.ShutString
import Derived.ChangeOld
import Derived.Below
namespace Go.Proofs.Yteknjaocamlcpaa.fnReadFeed
open Go.ChangeShapes Go.WideShapes Go.ChangeAt Go.RowKit
open Go.ChangeMaps (open_string shut_string)
set_option linter.unusedVariables false

theorem own : ownKnob Try.prog.godebug = none := by kernel_rfl
theorem laidOut : laidOutB Try.prog = true := by kernel_rfl

/-- WHAT THE WALK IS TOLD OF A SLICE OF INTEGERS THAT CAME IN: it is nil; or it leads to a row of 'cap' cells, the numbers 'zs' (the first 'len' are its elements, the rest its spare room), each fitting its kind. -/
def IsRow (k : IntKind) (w : World) (a : Option Addr) (len cap : Nat) (zs : List Int) : Prop :=
  (a = none ∧ len = 0 ∧ cap = 0 ∧ zs = []) ∨
  ∃ x, a = some x ∧ len ≤ cap ∧ cap ≤ maxLen ∧ zs.length = cap ∧ (∀ i, i < zs.length → w.cell? (x.add i) = some (.int k (zs.getD i 0))) ∧ ∀ n ∈ zs, (Lit.int k n).wf = true

/-! ### STEP 1: THE WALK: the Go text returns true, AND WRITES NOTHING THAT WAS THERE: 'Below w.heap.size w w'' (Derived/Below.lean: '.refl', '.alloc', '.drew', '.setCell' at a new block, '.trans'). Open each 'IsRow' by 'rcases' AHEAD of 'go_enter'; part every test ahead of the walk. -/
set_option maxRecDepth 100000 in
set_option maxHeartbeats 4000000 in
theorem walk (a0 : Option Addr) (len0 cap0 : Nat) (z0 : List Int) (w : World) (w0 : IsRow .u8 w a0 len0 cap0 z0) :
    Calls Try.prog 5 #[.slice a0 len0 cap0] w fun e w' => e = .returned (.bool true) ∧ Below w.heap.size w w' := by
  have hcode := codeArg_of w0
  have hcap := hcode.1
  have hcap2 := hcode.2.1
  unfold maxLen at hcap2
  clear w0
  by_cases hbig : 1048576 < len0
  · go_enter Try.func5, Try.ntmps5
    go_wp2
    go_ret
    exact ⟨rfl, Below.refl _ _⟩
  · go_enter Try.func5, Try.ntmps5
    go_wp2_with fail
    refine (drawRF_any w a0 len0 cap0 hcode).mono ?_
    rintro e w2 ⟨v, LS, rfl, h30, hsh, hown, hb2⟩
    have hfit : FitS LS := fun s m => by have := hsh s m; omega
    have hfit2 : FitS (LS ++ LS) := fun s m => by
      rcases List.mem_append.1 m with m | m
      · exact hfit s m
      · exact hfit s m
    have hrd2 := OwnG.rd hown
    have hb2 := Lib.hid hb2
    clear hsh hown
    have hI := fun x (h : RdG encS x v LS) => fdI_read v LS x h hfit
    have hS := fun x (h : RdG encS x v LS) => fdS_read v LS x h hfit
    have hI2 := fun u x (h : RdG encS x u (LS ++ LS)) => fdI_read u (LS ++ LS) x h hfit2
    unfold GotRF at hI hS hI2
    have hinv := rfF_inv (bad := 0) (ls := LS) fdB_nil
    have hdbl := fun x b (h : rfF [] 0 LS = (x, ((b : Nat) : Int))) => And.intro (rfF_double h) (rfF_bad h)
    obtain ⟨P, hP⟩ : ∃ P, rfF [] 0 LS = P := ⟨_, rfl⟩
    simp only [hP] at hI hS hinv hdbl
    obtain ⟨M, z⟩ := P
    simp only at hI hS
    have hI := Lib.hid hI
    have hS := Lib.hid hS
    have hI2 := Lib.hid hI2
    have hinv := Lib.hid hinv
    have hdbl := Lib.hid hdbl
    clear hP
    have zz : (z == z) = true := by simp
    go_wp2_with fail
    refine (hI.out _ hrd2).mono ?_
    rintro e w3 ⟨x3, rfl, hown3, hb3⟩
    have hrd3 := hrd2.below hb3
    have hrdx3 := OwnG.rd hown3
    have hb3 := Lib.hid (below_trans' hb2.out hb3)
    have hform := OwnG.form hown3
    clear hown3
    go_wp2_with fail
    refine (hS.out _ hrd3).mono ?_
    rintro e w4 ⟨y4, rfl, hown4, hb4⟩
    have hrd4 := hrd3.below hb4
    have hrdx4 := hrdx3.below hb4
    have hrdy4 := OwnG.rd hown4
    have hb4 := Lib.hid (below_trans' hb3.out hb4)
    clear hown4
    go_wp2_with fail
    refine (sameF_any x3 y4 M _ hrdx4 hrdy4).mono ?_
    rintro e w5 ⟨rfl, n5, rfl⟩
    have hrd5 := hrd4.below (below_drewN w4 n5)
    have hrdx5 := hrdx4.below (below_drewN w4 n5)
    have hb5 := Lib.hid (below_trans' hb4.out (below_drewN w4 n5))
    obtain ⟨w5, hw5⟩ : ∃ w5, w4.drewN n5 = w5 := ⟨_, rfl⟩
    rw [hw5] at hrd5 hrdx5 hb5 ⊢
    clear hw5 hrdy4
    rcases hinv.out with q | ⟨M', b, q, _, hfv, _⟩
    · obtain ⟨rfl, rfl⟩ : M = [] ∧ z = -1 := by injection q with q1 q2; exact ⟨q1, q2⟩
      obtain ⟨A, c, rfl, _⟩ := hrdx5.nil
      go_wp2_with (go_at_call 15; refine (alive_any _).mono ?_; rintro e w' ⟨rfl, rfl⟩)
      go_ret
      exact ⟨rfl, hb5.out⟩
    · obtain ⟨rfl, rfl⟩ : M = M' ∧ z = (b : Int) := by injection q with q1 q2; exact ⟨q1, q2⟩
      obtain ⟨hd, hbd⟩ := hdbl.out M b rfl
      have hd := Lib.hid hd
      have HF := Lib.hid hfv
      have hffit := Lib.hid (fitF_of hfv)
      have t1 : decide ((b : Int) < 0) = false := decide_eq_false (by omega)
      have t2 : ¬ ((b : Int) < 0) := by omega
      have hll : ([] : List ByteArray).length + LS.length ≤ 1073741824 := by simp; omega
      have hll2 : LS.length + LS.length ≤ 1073741824 := by omega
      have tw : (2 * (b : Int) == 2 * (b : Int)) = true := by simp
      clear hinv hdbl hfv q hform
      have hrd5' := Lib.hid hrd5
      go_wp2_with (first
        | (at_builtin; refine app_strs rfl (.tmp 47) (.tmp 48) rfl w5.heap.size _ _ ([] : List ByteArray) LS rfl (ownS_empty w5 _ (Nat.le_refl _)) (by simp) rfl (hrd5'.out.below ((Below.refl _ _).alloc (Nat.le_refl _) _)) hll ?_; intro v6 w6 hown6 hg6; rw [List.nil_append] at hown6; have hB6 := Lib.hid (own_below (W := w5) (ownS_empty w5 _ (Nat.le_refl _)) ((Below.refl _ _).alloc (Nat.le_refl _) _) hg6); have hown6 := Lib.hid hown6; clear hg6)
        | (at_builtin; refine app_strs rfl (.tmp 49) (.tmp 50) rfl w5.heap.size _ _ LS LS rfl hown6.out hB6.out.size rfl (hrd5'.out.below hB6.out) hll2 ?_; intro v7 w7 hown7 hg7; have hB7 := Lib.hid (own_below hown6.out hB6.out hg7); have hrd7 := Lib.hid (OwnG.rd hown7); clear hg7 hown7))
      refine (hI2.out _ _ hrd7.out).mono ?_
      rintro e w8 ⟨z8, rfl, hown8, hb8⟩
      rw [hd.out] at hown8 ⊢
      have hrdz8 := OwnG.rd hown8
      have hB8 := Lib.hid (below_trans' hB7.out hb8)
      have hrdx8 := hrdx5.below hB8.out
      clear hown8 hb8
      go_wp2_with fail
      refine (fdI_valid x3 M _ hrdx8 hffit.out).mono ?_
      rintro e w9 ⟨rfl, hb9⟩
      rw [HF.out]
      have hB9 := Lib.hid (below_trans' hB8.out hb9)
      have hrdx9 := hrdx8.below hb9
      have hrdz9 := hrdz8.below hb9
      clear hb9
      go_wp2_with fail
      refine (sameF_any z8 x3 M _ hrdz9 hrdx9).mono ?_
      rintro e w10 ⟨rfl, n10, rfl⟩
      go_wp2
      go_ret
      exact ⟨rfl, below_trans' hb5.out (below_trans' hB9.out (below_drewN w9 n10))⟩

/-! ### THE ROW's STEP: WRITTEN OUT: LEAVE IT -/
set_option maxRecDepth 100000 in
theorem lifted (os : Os) (started : os.Started) (H : Type) (enc : TypeId × Value → H) :
    ReturnsInHanded {} Try.checked os 5 .any (Rows.fnReadFeedSpec.pre6 enc Try.prog Try.f5 Rows.fnReadFeedRow.domain false) (Rows.fnReadFeedSpec.post enc Try.prog Try.f5 false true false false) := by
  refine returnsInHanded_of_change (C := Try.checked) own started (by kernel_rfl) Try.func5
    (ChangeSpec.witness6 (enc := enc) (C := Try.checked) false ⟨#[], #[.slice none 0 0], []⟩ 8 (by kernel_rfl) (by kernel_rfl) (by kernel_rfl) (by kernel_rfl)) ?_
  intro W base args ds gs before hval0 hW hcnd _
  have hval : ∀ (j : Nat) t v, Try.f5.params[j]? = some t → args[j]? = some v → Value.okWide Try.prog W .any base t v := hval0
  have hW' := hW
  obtain ⟨p, q, hA0, hV, rfl, hfz, hnd⟩ := hW
  have hA : DataW.TrodAll enc Try.prog W 0 (fun _ => true) true Try.f5.params.toList args.toList ds p := hA0
  rw [Try.params5] at hA hval
  obtain ⟨v0, vs0, d0, ds0, p0, q0, hargs, rfl, rfl, h0, r0⟩ := trodAll_cons hA
  obtain ⟨rfl, rfl, rfl⟩ := trodAll_nil r0
  obtain rfl : args = #[v0] := by cases args; simp_all
  obtain ⟨rfl, rfl⟩ := trodVars_none hV
  obtain ⟨a0, len0, cap0, rfl⟩ := okWide_slice Try.underlying22 (hval 0 22 v0 rfl rfl)
  have k0 := h0
  have lt0 : ∀ x ∈ p0, x.block < W.heap.size := by obtain ⟨m, hm⟩ := k0; exact DataW.trod_lt m _ _ _ hm
  obtain ⟨z0, w0⟩ : ∃ zs, IsRow .u8 W a0 len0 cap0 zs := by
    obtain ⟨fuel, hf⟩ := h0
    rcases open_ints Try.underlying22 Try.underlying5 (by kernel_rfl) hf with ⟨hcs, _⟩ | ⟨x, l, c, zs, hcs, _, hl, hm, hz, _, hcell, hwz⟩
    · simp [Value.cells] at hcs
      obtain ⟨rfl, rfl, rfl⟩ := hcs
      exact ⟨[], .inl ⟨rfl, rfl, rfl, rfl⟩⟩
    · simp [Value.cells] at hcs
      obtain ⟨rfl, rfl, rfl⟩ := hcs
      exact ⟨zs, .inr ⟨_, rfl, hl, hm, by simpa using hz, hcell, hwz⟩⟩
  clear hA0 hval0
  refine (walk a0 len0 cap0 z0 W w0).mono fun e W' ⟨he, bel⟩ => ?_
  subst he
  exact ⟨_, rfl, _, _, _, [], _, [], hW', trodAll_mk1 (shut_bool Try.underlying4 _), (trodAll_cons_mk (Below.trod laidOut (by kernel_rfl) (of_decide_eq_true (by kernel_rfl)) k0 bel lt0) trodAll_mk0), rfl, bel.frame _, fun h => by cases h⟩

theorem over : Rows.fnReadFeedRow.holds Try.pinned (OpenSpec.ofChange Rows.fnReadFeedSpec) :=
  OpenClaim.holds_of_wide 5 Try.f5 rfl rfl rfl rfl rfl rfl rfl ⟨rfl, rfl, rfl, rfl, rfl⟩ rfl rfl rfl rfl rfl (by kernel_rfl) Try.func5 (by kernel_rfl)
    (of_decide_eq_true (by kernel_rfl)) (by unfold Func.isWrapper; first | (rw [if_pos (by decide +kernel)]; kernel_rfl) | (rw [if_neg (by decide +kernel)]; exact ⟨rfl, rfl⟩))
    (fun os started H enc _ => lifted os started H enc)

/-- ████ THE STATEMENT ████ -/
theorem proved : Rows.FnReadFeedSaid := over
#print axioms proved
end Go.Proofs.Yteknjaocamlcpaa.fnReadFeed
