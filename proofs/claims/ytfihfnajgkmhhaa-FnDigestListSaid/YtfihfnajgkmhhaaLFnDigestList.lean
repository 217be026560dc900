/-
  'FnDigestList' answers true at every input, and each argument reads behind the call as before. Conditions: none.
  The frame is the kit's shell (proof-skeleton.mjs); the walk is the verifier's.
-/
import Derived.Test.YtfihfnajgkmhhaaRows
import Derived.Test.YtfihfnajgkmhhaaJD
import Derived.Test.YtfihfnajgkmhhaaJC
import Derived.Test.YtfihfnajgkmhhaaJG
import Derived.Test.YtfihfnajgkmhhaaJB
import Derived.Test.YtfihfnajgkmhhaaGc
import Derived.Lib.Hide
import Derived.Outline
import Derived.BigQuiet
import Derived.Deep.QuietTactic
import Derived.Deep.Draws
import Derived.Laws.OwnMore
import Derived.Laws.Rows
import Derived.WalkSpells
import Derived.Deep.RegionWith
import Derived.WalkKit
import Derived.ProofKit
import Derived.OpenShut
import Derived.ShutString
import Derived.ChangeOld
import Derived.Below
namespace Go.Proofs.Ytfihfnajgkmhhaa.fnDigestList
open Go.ChangeShapes Go.WideShapes Go.ChangeAt Go.RowKit
open Go.ChangeMaps (open_string shut_string)
set_option linter.unusedVariables false

theorem own : ownKnob Try.prog.godebug = none := by kernel_rfl
theorem laidOut : laidOutB Try.prog = true := by kernel_rfl

/-- WHAT THE WALK IS TOLD OF A SLICE OF INTEGERS THAT CAME IN: it is nil; or it leads to a row of 'cap' cells, the numbers 'zs' (the first 'len' are its elements, the rest its spare room), each fitting its kind. -/
def IsRow (k : IntKind) (w : World) (a : Option Addr) (len cap : Nat) (zs : List Int) : Prop :=
  (a = none ∧ len = 0 ∧ cap = 0 ∧ zs = []) ∨
  ∃ x, a = some x ∧ len ≤ cap ∧ cap ≤ maxLen ∧ zs.length = cap ∧ (∀ i, i < zs.length → w.cell? (x.add i) = some (.int k (zs.getD i 0))) ∧ ∀ n ∈ zs, (Lit.int k n).wf = true

/-! ### STEP 1: THE WALK: the Go text returns true, AND WRITES NOTHING THAT WAS THERE: 'Below w.heap.size w w'' (Derived/Below.lean: '.refl', '.alloc', '.drew', '.setCell' at a new block, '.trans'). Open each 'IsRow' by 'rcases' AHEAD of 'go_enter'; part every test ahead of the walk. -/
set_option maxRecDepth 100000 in
set_option maxHeartbeats 4000000 in
theorem walk (a0 : Option Addr) (len0 cap0 : Nat) (z0 : List Int) (w : World) (w0 : IsRow .u8 w a0 len0 cap0 z0) :
    Calls Try.prog 5 #[.slice a0 len0 cap0] w fun e w' => e = .returned (.bool true) ∧ Below w.heap.size w w' := by
  have hcode := codeArg_of w0
  have hcap := hcode.1
  have hcap2 := hcode.2.1
  unfold maxLen at hcap2
  clear w0
  by_cases hbig : 1048576 < len0
  · go_enter Try.func5, Try.ntmps5
    go_wp2
    go_ret
    exact ⟨rfl, Below.refl _ _⟩
  · go_enter Try.func5, Try.ntmps5
    go_wp2_with (go_at_call 16; refine (drawDgL_any w a0 len0 cap0 hcode).mono ?_; rintro e w2 ⟨v, L, rfl, hl21, hown, hb⟩)
    have hrd := Lib.hid (ownZ_rd hown)
    have hb := Lib.hid hb
    clear hown
    obtain ⟨N, hN⟩ : ∃ N, dgI L = N := ⟨_, rfl⟩
    have HN := Lib.hid hN
    have e0 : (N == N) = true := by simp
    obtain ⟨AV, cV, hvs⟩ : ∃ A c, v = .slice A L.length c := by obtain ⟨A, c, h, _⟩ := hrd.out; exact ⟨A, c, h⟩
    subst hvs
    by_cases hin : L.all gtB = true ∧ L.length ≤ 20
    · have hlo := dgN_lo L
      rw [← dgI_in hin.1 hin.2, hN] at hlo
      have d0 : decide (N < 0) = false := decide_eq_false (by omega)
      have d1 : decide (N < 999983) = true := decide_eq_true hlo.2
      have d2 : decide (-1 ≤ N) = true := decide_eq_true (by omega)
      by_cases h20 : L.length = 20
      · have t1 : ((L.length : Int) == 20) = true := by rw [beq_iff_eq]; omega
        clear hN hlo hin h20
        go_wp2_with (first | (go_at_call 17; ((with_reducible refine (dgP_list _ L _ hrd.out).mono ?_); rintro e w' ⟨rfl, rfl⟩; rw [HN.out])) | (go_at_call 18; ((with_reducible refine (dgS_list _ L _ hrd.out).mono ?_); rintro e w' ⟨rfl, rfl⟩; rw [HN.out])) | (go_at_call 12; ((with_reducible refine (alive_any _).mono ?_); rintro e w' ⟨rfl, rfl⟩)))
        go_ret
        exact ⟨rfl, hb.out⟩
      · have t1 : ((L.length : Int) == 20) = false := by rw [beq_eq_false_iff_ne]; omega
        have hmore := dgI_more hin.1 (by omega)
        have hlo5 := dgN_lo (L ++ [5])
        rw [← dgI_in (L := L ++ [5]) (by rw [List.all_append, hin.1]; decide) (by rw [List.length_append, List.length_singleton]; omega)] at hlo5
        obtain ⟨X, hX⟩ : ∃ X, dgI (L ++ [5]) = X := ⟨_, rfl⟩
        rw [hX] at hmore hlo5
        have HX := Lib.hid hX
        have HY := Lib.hid hmore
        have iw := IntWalk.i64_in (X + 1) (by omega)
        have iw2 := IntWalk.i64_in ((X + 1) % 999983) (by omega)
        have i5 : (X + 1).tmod 999983 = (X + 1) % 999983 := Int.tmod_eq_emod_of_nonneg (by omega)
        have hE := Lib.hid (ownZ_empty w2 w2.heap.size (Nat.le_refl _))
        have hrE := Lib.hid (hrd.out.below ((Below.refl _ _).alloc (Nat.le_refl _) (.cells #[] 3)))
        have hl1 : ([] : List Int).length + L.length ≤ 1073741824 := by simp; omega
        have hs1 : w2.heap.size ≤ (w2.alloc (.cells #[] 3)).heap.size := by simp
        clear hN hlo hin h20 hX hmore hlo5
        have hl4 : L.length ≤ 1073741824 := by omega
        go_wp2_with (first | (go_at_call 17; ((with_reducible refine (dgP_list _ L _ hrd.out).mono ?_); rintro e w' ⟨rfl, rfl⟩; rw [HN.out])) | (go_at_call 18; ((with_reducible refine (dgS_list _ L _ hrd.out).mono ?_); rintro e w' ⟨rfl, rfl⟩; rw [HN.out])) | (at_builtin; refine app_ints rfl (.tmp 30) (.tmp 31) rfl w2.heap.size _ _ [] L rfl hE.out hs1 rfl hrE.out hl1 ?_; intro v4 w4 hown4 hg4; have hB4 := Lib.hid (own_below hE.out ((Below.refl _ _).alloc (Nat.le_refl _) (.cells #[] 3)) hg4); have hown4 : Hid (OwnZ w4 w2.heap.size v4 L) := Lib.hid hown4; clear hg4) | (at_builtin; refine app_int rfl (.tmp 32) (.tmp 33) rfl w2.heap.size _ L 5 rfl hown4.out hB4.out.size _ rfl rfl hl4 ?_; intro v5 w5 hown5 hg5; have hB5 := Lib.hid (own_below hown4.out hB4.out hg5); have hrd5 := Lib.hid (ownZ_rd hown5); clear hown5 hg5) | (go_at_call 17; ((with_reducible refine (dgP_list _ (L ++ [5]) _ hrd5.out).mono ?_); rintro e w' ⟨rfl, rfl⟩; rw [HX.out])) | (at_builtin; refine app_ints rfl (.tmp 36) (.tmp 37) rfl w5.heap.size _ _ [] L rfl (ownZ_empty w5 w5.heap.size (Nat.le_refl _)) (by simp) rfl ((hrd.out.below hB5.out).below ((Below.refl _ _).alloc (Nat.le_refl _) (.cells #[] 3))) hl1 ?_; intro v6 w6 hown6 hg6; have hB6 := Lib.hid (own_below (ownZ_empty w5 w5.heap.size (Nat.le_refl _)) ((Below.refl _ _).alloc (Nat.le_refl _) (.cells #[] 3)) hg6); have hown6 : Hid (OwnZ w6 w5.heap.size v6 L) := Lib.hid hown6; clear hg6) | (at_builtin; refine app_int rfl (.tmp 38) (.tmp 39) rfl w5.heap.size _ L 6 rfl hown6.out hB6.out.size _ rfl rfl hl4 ?_; intro v7 w7 hown7 hg7; have hB7 := Lib.hid (own_below hown6.out hB6.out hg7); have hrd7 := Lib.hid (ownZ_rd hown7); clear hown7 hg7) | (go_at_call 17; ((with_reducible refine (dgP_list _ (L ++ [6]) _ hrd7.out).mono ?_); rintro e w' ⟨rfl, rfl⟩; rw [HY.out])))
        go_ret
        exact ⟨rfl, below_trans' (below_trans' hb.out hB5.out) hB7.out⟩
    · have hn1 : N = -1 := by
        rw [← hN]; unfold dgI; rw [if_neg hin]
      have hpos : L ≠ [] := by
        intro e
        subst e
        exact hin ⟨rfl, by simp⟩
      clear hN hin
      subst hn1
      go_wp2_with (first | (go_at_call 17; ((with_reducible refine (dgP_list _ L _ hrd.out).mono ?_); rintro e w' ⟨rfl, rfl⟩; rw [HN.out])) | (go_at_call 18; ((with_reducible refine (dgS_list _ L _ hrd.out).mono ?_); rintro e w' ⟨rfl, rfl⟩; rw [HN.out])) | (go_at_call 12; ((with_reducible refine (alive_any _).mono ?_); rintro e w' ⟨rfl, rfl⟩)))
      go_ret
      exact ⟨rfl, hb.out⟩

/-! ### THE ROW's STEP: WRITTEN OUT: LEAVE IT -/
set_option maxRecDepth 100000 in
theorem lifted (os : Os) (started : os.Started) (H : Type) (enc : TypeId × Value → H) :
    ReturnsInHanded {} Try.checked os 5 .any (Rows.fnDigestListSpec.pre6 enc Try.prog Try.f5 Rows.fnDigestListRow.domain false) (Rows.fnDigestListSpec.post enc Try.prog Try.f5 false true false false) := by
  refine returnsInHanded_of_change (C := Try.checked) own started (by kernel_rfl) Try.func5
    (ChangeSpec.witness6 (enc := enc) (C := Try.checked) false ⟨#[], #[.slice none 0 0], []⟩ 8 (by kernel_rfl) (by kernel_rfl) (by kernel_rfl) (by kernel_rfl)) ?_
  intro W base args ds gs before hval0 hW hcnd _
  have hval : ∀ (j : Nat) t v, Try.f5.params[j]? = some t → args[j]? = some v → Value.okWide Try.prog W .any base t v := hval0
  have hW' := hW
  obtain ⟨p, q, hA0, hV, rfl, hfz, hnd⟩ := hW
  have hA : DataW.TrodAll enc Try.prog W 0 (fun _ => true) true Try.f5.params.toList args.toList ds p := hA0
  rw [Try.params5] at hA hval
  obtain ⟨v0, vs0, d0, ds0, p0, q0, hargs, rfl, rfl, h0, r0⟩ := trodAll_cons hA
  obtain ⟨rfl, rfl, rfl⟩ := trodAll_nil r0
  obtain rfl : args = #[v0] := by cases args; simp_all
  obtain ⟨rfl, rfl⟩ := trodVars_none hV
  obtain ⟨a0, len0, cap0, rfl⟩ := okWide_slice Try.underlying22 (hval 0 22 v0 rfl rfl)
  have k0 := h0
  have lt0 : ∀ x ∈ p0, x.block < W.heap.size := by obtain ⟨m, hm⟩ := k0; exact DataW.trod_lt m _ _ _ hm
  obtain ⟨z0, w0⟩ : ∃ zs, IsRow .u8 W a0 len0 cap0 zs := by
    obtain ⟨fuel, hf⟩ := h0
    rcases open_ints Try.underlying22 Try.underlying5 (by kernel_rfl) hf with ⟨hcs, _⟩ | ⟨x, l, c, zs, hcs, _, hl, hm, hz, _, hcell, hwz⟩
    · simp [Value.cells] at hcs
      obtain ⟨rfl, rfl, rfl⟩ := hcs
      exact ⟨[], .inl ⟨rfl, rfl, rfl, rfl⟩⟩
    · simp [Value.cells] at hcs
      obtain ⟨rfl, rfl, rfl⟩ := hcs
      exact ⟨zs, .inr ⟨_, rfl, hl, hm, by simpa using hz, hcell, hwz⟩⟩
  clear hA0 hval0
  refine (walk a0 len0 cap0 z0 W w0).mono fun e W' ⟨he, bel⟩ => ?_
  subst he
  exact ⟨_, rfl, _, _, _, [], _, [], hW', trodAll_mk1 (shut_bool Try.underlying4 _), (trodAll_cons_mk (Below.trod laidOut (by kernel_rfl) (of_decide_eq_true (by kernel_rfl)) k0 bel lt0) trodAll_mk0), rfl, bel.frame _, fun h => by cases h⟩

theorem over : Rows.fnDigestListRow.holds Try.pinned (OpenSpec.ofChange Rows.fnDigestListSpec) :=
  OpenClaim.holds_of_wide 5 Try.f5 rfl rfl rfl rfl rfl rfl rfl ⟨rfl, rfl, rfl, rfl, rfl⟩ rfl rfl rfl rfl rfl (by kernel_rfl) Try.func5 (by kernel_rfl)
    (of_decide_eq_true (by kernel_rfl)) (by unfold Func.isWrapper; first | (rw [if_pos (by decide +kernel)]; kernel_rfl) | (rw [if_neg (by decide +kernel)]; exact ⟨rfl, rfl⟩))
    (fun os started H enc _ => lifted os started H enc)

/-- ████ THE STATEMENT ████ -/
theorem proved : Rows.FnDigestListSaid := over
#print axioms proved
end Go.Proofs.Ytfihfnajgkmhhaa.fnDigestList
