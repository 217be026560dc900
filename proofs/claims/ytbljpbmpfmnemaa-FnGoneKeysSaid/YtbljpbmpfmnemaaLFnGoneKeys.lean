/-
  'FnGoneKeys' answers true at every input, and each argument reads behind the call as before. Conditions: none.
  The frame is the kit's shell (proof-skeleton.mjs); the walk is the verifier's.
-/
import Derived.Test.YtbljpbmpfmnemaaRows
import Derived.Test.YtbljpbmpfmnemaaGr
import Derived.Test.YtbljpbmpfmnemaaLawFd
import Derived.Test.YtbljpbmpfmnemaaGu
import Derived.Test.YtbljpbmpfmnemaaGv
import Derived.Test.YtbljpbmpfmnemaaDChg
import Derived.Test.YtbljpbmpfmnemaaGoneI
import Derived.Test.YtbljpbmpfmnemaaGoneS
import Derived.Test.YtbljpbmpfmnemaaGc
import Derived.Lib.Hide
import Derived.Outline
import Derived.BigQuiet
import Derived.Deep.QuietTactic
import Derived.Deep.Draws
import Derived.Laws.OwnMore
import Derived.Laws.Rows
import Derived.WalkSpells
import Derived.Deep.RegionWith
import Derived.WalkKit
import Derived.ProofKit
import Derived.OpenShut
import Derived.ShutString
import Derived.ChangeOld
import Derived.Below
namespace Go.Proofs.Ytbljpbmpfmnemaa.fnGoneKeys
open Go.ChangeShapes Go.WideShapes Go.ChangeAt Go.RowKit
open Go.ChangeMaps (open_string shut_string)
set_option linter.unusedVariables false

theorem own : ownKnob Try.prog.godebug = none := by kernel_rfl
theorem laidOut : laidOutB Try.prog = true := by kernel_rfl

/-- WHAT THE WALK IS TOLD OF A SLICE OF INTEGERS THAT CAME IN: it is nil; or it leads to a row of 'cap' cells, the numbers 'zs' (the first 'len' are its elements, the rest its spare room), each fitting its kind. -/
def IsRow (k : IntKind) (w : World) (a : Option Addr) (len cap : Nat) (zs : List Int) : Prop :=
  (a = none ∧ len = 0 ∧ cap = 0 ∧ zs = []) ∨
  ∃ x, a = some x ∧ len ≤ cap ∧ cap ≤ maxLen ∧ zs.length = cap ∧ (∀ i, i < zs.length → w.cell? (x.add i) = some (.int k (zs.getD i 0))) ∧ ∀ n ∈ zs, (Lit.int k n).wf = true

/-! ### STEP 1: THE WALK: the Go text returns true, AND WRITES NOTHING THAT WAS THERE: 'Below w.heap.size w w'' (Derived/Below.lean: '.refl', '.alloc', '.drew', '.setCell' at a new block, '.trans'). Open each 'IsRow' by 'rcases' AHEAD of 'go_enter'; part every test ahead of the walk. -/
set_option maxRecDepth 100000 in
set_option maxHeartbeats 4000000 in
theorem walk (a0 : Option Addr) (len0 cap0 : Nat) (z0 : List Int) (w : World) (w0 : IsRow .u8 w a0 len0 cap0 z0) :
    Calls Try.prog 6 #[.slice a0 len0 cap0] w fun e w' => e = .returned (.bool true) ∧ Below w.heap.size w w' := by
  have hcode := codeArg_of w0
  have hcap := hcode.1
  have hcap2 := hcode.2.1
  unfold maxLen at hcap2
  clear w0
  by_cases hbig : 1048576 < len0
  · go_enter Try.func6, Try.ntmps6
    go_wp2
    go_ret
    exact ⟨rfl, Below.refl _ _⟩
  · go_enter Try.func6, Try.ntmps6
    go_wp2_with fail
    refine (drawGK_any w a0 len0 cap0 hcode).mono ?_
    rintro e w2 ⟨v, u, A, B, rfl, h7, h9, hsA, hsB, hrdA, hrdB, hb⟩
    have fa := fit_shortF hsA
    have fb := fit_shortF hsB
    replace hrdA := Lib.hid hrdA
    replace hrdB := Lib.hid hrdB
    replace hb := Lib.hid hb
    clear hsA hsB
    go_wp2_with fail
    refine (chI_gone v u A B _ hrdA.out hrdB.out fa fb).mono ?_
    rintro e w3 ⟨x, rfl, hownx, hb3⟩
    obtain ⟨X, hX⟩ : ∃ X, gonF A B = X := ⟨_, rfl⟩
    rw [hX] at hownx
    replace hX := Lib.hid hX
    have hrdx := Lib.hid (OwnG.rd hownx)
    replace hrdA := Lib.hid (hrdA.out.below hb3)
    replace hrdB := Lib.hid (hrdB.out.below hb3)
    replace hb := Lib.hid (below_trans' hb.out hb3)
    clear hownx hb3
    go_wp2_with fail
    refine (chS_gone v u A B _ hrdA.out hrdB.out fa fb).mono ?_
    rintro e w4 ⟨y, rfl, howny, hb4⟩
    rw [hX.out] at howny
    have hrdy := Lib.hid (OwnG.rd howny)
    replace hrdA := Lib.hid (hrdA.out.below hb4)
    replace hrdB := Lib.hid (hrdB.out.below hb4)
    replace hrdx := Lib.hid (hrdx.out.below hb4)
    replace hb := Lib.hid (below_trans' hb.out hb4)
    clear howny hb4
    go_wp2_with fail
    refine (sameS_any x y X _ hrdx.out hrdy.out).mono ?_
    rintro e w5 ⟨rfl, n5, rfl⟩
    have hb5 := below_drewN w4 n5
    replace hrdA := Lib.hid (hrdA.out.below hb5)
    replace hrdB := Lib.hid (hrdB.out.below hb5)
    replace hrdx := Lib.hid (hrdx.out.below hb5)
    replace hb := Lib.hid (below_trans' hb.out hb5)
    obtain ⟨w5, hw5⟩ : ∃ w5, w4.drewN n5 = w5 := ⟨_, rfl⟩
    rw [hw5] at hrdA hrdB hrdx hb ⊢
    clear hb5 hw5 hrdy
    obtain ⟨Ax, cx, hx, hcx, hmx, _⟩ := id hrdx.out
    subst hx
    unfold maxLen at hmx
    have hlaw : Hid (∀ k (hk : k < X.length), (itW B X[k]).2 = false) := Lib.hid (by
      have := hX.out
      subst this
      exact fun k hk => gonF_law hk)
    have hmap : ∀ M, newF B A = M → ∀ k (hk : k < X.length), ∃ h' : k < M.length, X[k] = M[k].key := by
      have := hX.out
      subst this
      rintro M rfl k hk
      exact gonF_at hk
    replace hmap := Lib.hid hmap
    have hlen : (newF B A).length = X.length := by rw [← hX.out]; unfold gonF; rw [List.length_map]
    go_wp2_with fail
    refine (chI_new u v B A _ hrdB.out hrdA.out fb fa).mono ?_
    rintro e w6 ⟨z, rfl, hownz, hb6⟩
    obtain ⟨M, hM⟩ : ∃ M, newF B A = M := ⟨_, rfl⟩
    rw [hM] at hownz hlen
    replace hmap := Lib.hid (hmap.out M hM)
    obtain ⟨Az, cz, hz⟩ := OwnF.shape hownz
    rw [hlen] at hz
    subst hz
    have hrdz := OwnG.rd hownz
    rw [← hlen] at hrdz
    replace hrdz := Lib.hid hrdz
    replace hrdA := Lib.hid (hrdA.out.below hb6)
    replace hrdB := Lib.hid (hrdB.out.below hb6)
    replace hrdx := Lib.hid (hrdx.out.below hb6)
    replace hb := Lib.hid (below_trans' hb.out hb6)
    have t0 : ((X.length : Int) == (X.length : Int)) = true := by simp
    clear hb6 hownz hM
    go_wp2
    go_loopw [7] (fun i wr => ∃ k : Nat, k ≤ X.length ∧ i = .int .i64 k ∧ Hid (Below w6.heap.size w6 wr)) (fun i _ => X.length - (intOf i).toNat)
    case atStart => exact ⟨0, Nat.zero_le _, rfl, Lib.hid (Below.refl _ _)⟩
    case round =>
      obtain ⟨k, hk, rfl, hbr⟩ := hrel
      by_cases hlt : k < X.length
      · have hjj : (k : Int) < (X.length : Int) := by omega
        have hj0 : (0 : Int) ≤ (k : Int) := by omega
        have hltM : k < M.length := by omega
        obtain ⟨b, o, c, hv, _, _, hb0, h4⟩ := hrdx.out.some (by intro e; rw [e] at hlt; simp at hlt)
        obtain ⟨rfl, rfl⟩ : Ax = some ⟨b, o, none⟩ ∧ cx = c := by simpa using hv
        obtain ⟨b', o', c', hv', _, _, hb0', h4'⟩ := hrdz.out.some (by intro e; rw [e] at hltM; simp at hltM)
        obtain ⟨rfl, rfl⟩ : Az = some ⟨b', o', none⟩ ∧ cz = c' := by
          rw [hlen] at hv'
          simpa using hv'
        have hcells := Lib.hid (fun k (hk : k < X.length) => rdS_cell h4 hk)
        have hcells' := Lib.hid (fun k (hk : k < M.length) => rdI_cells h4' hk)
        have hrwx := Lib.hid (fun wX (hX : Below w6.heap.size w6 wX) => rdS_at hcells.out hb0 hX hlt)
        have hrwz := Lib.hid (fun wX (hX : Below w6.heap.size w6 wX) => rdI_at hcells'.out hb0' hX hltM)
        have l1 := hlaw.out k hlt
        obtain ⟨_, l2⟩ := hmap.out k hlt
        obtain ⟨e, he⟩ : ∃ e, M[k] = e := ⟨_, rfl⟩
        rw [he] at hrwz l2
        obtain ⟨ky, ti, bo, da⟩ := e
        simp only at hrwz l2
        rw [l2] at hrwx l1
        have c0 := hrwx.out _ hbr.out
        have hrdBr := hrdB.out.below hbr.out
        clear hv h4 hv' h4' he l2
        go_wp2_with fail
        refine (fdI_with u B ky _ hrdBr fb).mono ?_
        rintro e w7 ⟨rfl, hb7⟩
        obtain ⟨x0, x1, x2, x3, q, hq⟩ : ∃ x0 x1 x2 x3 q, itW B ky = (⟨x0, x1, x2, x3⟩, q) := ⟨_, _, _, _, _, rfl⟩
        rw [hq] at l1 ⊢
        simp only at l1
        subst l1
        replace hb7 := Lib.hid (below_trans' hbr.out hb7)
        clear hq hrdBr c0
        obtain ⟨w8, hw8⟩ : ∃ w8, w7.alloc (.cells #[.string x0, .string x1, .string x2, .int .i64 x3] 30) = w8 := ⟨_, rfl⟩
        have hb8 : Hid (Below w6.heap.size w6 w8) := Lib.hid (by rw [← hw8]; exact hb7.out.alloc hb7.out.size _)
        have c0 := hrwx.out _ hb8.out
        obtain ⟨d0, d1, d2, d3⟩ := hrwz.out _ hb8.out
        have q1 := str_same (a := ky) (b := ky) rfl
        dsimp only
        go_wp2
        go_quiet (fail)
        go_wp2
        go_roundw
        case rel => exact ⟨k + 1, by omega, by go_num, Lib.hid (Below.drawn hb8.out _)⟩
        case measure => simp [intOf]; omega
      · go_wp2_with (go_at_call 17; refine (alive_any _).mono ?_; rintro e w' ⟨rfl, rfl⟩)
        go_ret
        exact ⟨rfl, below_trans' hb.out hbr.out⟩

/-! ### THE ROW's STEP: WRITTEN OUT: LEAVE IT -/
set_option maxRecDepth 100000 in
theorem lifted (os : Os) (started : os.Started) (H : Type) (enc : TypeId × Value → H) :
    ReturnsInHanded {} Try.checked os 6 .any (Rows.fnGoneKeysSpec.pre6 enc Try.prog Try.f6 Rows.fnGoneKeysRow.domain false) (Rows.fnGoneKeysSpec.post enc Try.prog Try.f6 false true false false) := by
  refine returnsInHanded_of_change (C := Try.checked) own started (by kernel_rfl) Try.func6
    (ChangeSpec.witness6 (enc := enc) (C := Try.checked) false ⟨#[], #[.slice none 0 0], []⟩ 8 (by kernel_rfl) (by kernel_rfl) (by kernel_rfl) (by kernel_rfl)) ?_
  intro W base args ds gs before hval0 hW hcnd _
  have hval : ∀ (j : Nat) t v, Try.f6.params[j]? = some t → args[j]? = some v → Value.okWide Try.prog W .any base t v := hval0
  have hW' := hW
  obtain ⟨p, q, hA0, hV, rfl, hfz, hnd⟩ := hW
  have hA : DataW.TrodAll enc Try.prog W 0 (fun _ => true) true Try.f6.params.toList args.toList ds p := hA0
  rw [Try.params6] at hA hval
  obtain ⟨v0, vs0, d0, ds0, p0, q0, hargs, rfl, rfl, h0, r0⟩ := trodAll_cons hA
  obtain ⟨rfl, rfl, rfl⟩ := trodAll_nil r0
  obtain rfl : args = #[v0] := by cases args; simp_all
  obtain ⟨rfl, rfl⟩ := trodVars_none hV
  obtain ⟨a0, len0, cap0, rfl⟩ := okWide_slice Try.underlying22 (hval 0 22 v0 rfl rfl)
  have k0 := h0
  have lt0 : ∀ x ∈ p0, x.block < W.heap.size := by obtain ⟨m, hm⟩ := k0; exact DataW.trod_lt m _ _ _ hm
  obtain ⟨z0, w0⟩ : ∃ zs, IsRow .u8 W a0 len0 cap0 zs := by
    obtain ⟨fuel, hf⟩ := h0
    rcases open_ints Try.underlying22 Try.underlying5 (by kernel_rfl) hf with ⟨hcs, _⟩ | ⟨x, l, c, zs, hcs, _, hl, hm, hz, _, hcell, hwz⟩
    · simp [Value.cells] at hcs
      obtain ⟨rfl, rfl, rfl⟩ := hcs
      exact ⟨[], .inl ⟨rfl, rfl, rfl, rfl⟩⟩
    · simp [Value.cells] at hcs
      obtain ⟨rfl, rfl, rfl⟩ := hcs
      exact ⟨zs, .inr ⟨_, rfl, hl, hm, by simpa using hz, hcell, hwz⟩⟩
  clear hA0 hval0
  refine (walk a0 len0 cap0 z0 W w0).mono fun e W' ⟨he, bel⟩ => ?_
  subst he
  exact ⟨_, rfl, _, _, _, [], _, [], hW', trodAll_mk1 (shut_bool Try.underlying4 _), (trodAll_cons_mk (Below.trod laidOut (by kernel_rfl) (of_decide_eq_true (by kernel_rfl)) k0 bel lt0) trodAll_mk0), rfl, bel.frame _, fun h => by cases h⟩

theorem over : Rows.fnGoneKeysRow.holds Try.pinned (OpenSpec.ofChange Rows.fnGoneKeysSpec) :=
  OpenClaim.holds_of_wide 6 Try.f6 rfl rfl rfl rfl rfl rfl rfl ⟨rfl, rfl, rfl, rfl, rfl⟩ rfl rfl rfl rfl rfl (by kernel_rfl) Try.func6 (by kernel_rfl)
    (of_decide_eq_true (by kernel_rfl)) (by unfold Func.isWrapper; first | (rw [if_pos (by decide +kernel)]; kernel_rfl) | (rw [if_neg (by decide +kernel)]; exact ⟨rfl, rfl⟩))
    (fun os started H enc _ => lifted os started H enc)

/-- ████ THE STATEMENT ████ -/
theorem proved : Rows.FnGoneKeysSaid := over
#print axioms proved
end Go.Proofs.Ytbljpbmpfmnemaa.fnGoneKeys
