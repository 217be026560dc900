/-
  'FnSortFeed' answers true at every input, and each argument reads behind the call as before. Conditions: none.
  The frame is the kit's shell (proof-skeleton.mjs); the walk is the verifier's.
-/
import Derived.Test.YtbljpbmpfmnemaaRows
import Derived.Test.YtbljpbmpfmnemaaGr
import Derived.Test.YtbljpbmpfmnemaaLawFd
import Derived.Test.YtbljpbmpfmnemaaGv
import Derived.Test.YtbljpbmpfmnemaaGw
import Derived.Test.YtbljpbmpfmnemaaGx
import Derived.Test.YtbljpbmpfmnemaaDChg
import Derived.Test.YtbljpbmpfmnemaaNewI
import Derived.Test.YtbljpbmpfmnemaaGt
import Derived.Test.YtbljpbmpfmnemaaGc
import Derived.Laws.Cover1
import Derived.Lib.Hide
import Derived.Outline
import Derived.BigQuiet
import Derived.Deep.QuietTactic
import Derived.Deep.Draws
import Derived.Laws.OwnMore
import Derived.Laws.Rows
import Derived.WalkSpells
import Derived.Deep.RegionWith
import Derived.WalkKit
import Derived.ProofKit
import Derived.OpenShut
import Derived.ShutString
import Derived.ChangeOld
import Derived.Below
namespace Go.Proofs.Ytbljpbmpfmnemaa.fnSortFeed
open Go.ChangeShapes Go.WideShapes Go.ChangeAt Go.RowKit
open Go.ChangeMaps (open_string shut_string)
set_option linter.unusedVariables false

theorem own : ownKnob Try.prog.godebug = none := by kernel_rfl
theorem laidOut : laidOutB Try.prog = true := by kernel_rfl

/-- WHAT THE WALK IS TOLD OF A SLICE OF INTEGERS THAT CAME IN: it is nil; or it leads to a row of 'cap' cells, the numbers 'zs' (the first 'len' are its elements, the rest its spare room), each fitting its kind. -/
def IsRow (k : IntKind) (w : World) (a : Option Addr) (len cap : Nat) (zs : List Int) : Prop :=
  (a = none ∧ len = 0 ∧ cap = 0 ∧ zs = []) ∨
  ∃ x, a = some x ∧ len ≤ cap ∧ cap ≤ maxLen ∧ zs.length = cap ∧ (∀ i, i < zs.length → w.cell? (x.add i) = some (.int k (zs.getD i 0))) ∧ ∀ n ∈ zs, (Lit.int k n).wf = true

/-! ### STEP 1: THE WALK: the Go text returns true, AND WRITES NOTHING THAT WAS THERE: 'Below w.heap.size w w'' (Derived/Below.lean: '.refl', '.alloc', '.drew', '.setCell' at a new block, '.trans'). Open each 'IsRow' by 'rcases' AHEAD of 'go_enter'; part every test ahead of the walk. -/
set_option maxRecDepth 100000 in
set_option maxHeartbeats 4000000 in
theorem walk (a0 : Option Addr) (len0 cap0 : Nat) (z0 : List Int) (w : World) (w0 : IsRow .u8 w a0 len0 cap0 z0) :
    Calls Try.prog 3 #[.slice a0 len0 cap0] w fun e w' => e = .returned (.bool true) ∧ Below w.heap.size w w' := by
  have hcode := codeArg_of w0
  have hcap := hcode.1
  have hcap2 := hcode.2.1
  unfold maxLen at hcap2
  clear w0
  by_cases hbig : 1048576 < len0
  · go_enter Try.func3, Try.ntmps3
    go_wp2
    go_ret
    exact ⟨rfl, Below.refl _ _⟩
  · go_enter Try.func3, Try.ntmps3
    go_wp2_with fail
    refine (drawSF_any w a0 len0 cap0 hcode).mono ?_
    rintro e w2 ⟨v, L, rfl, h7, hsh, hown, hb⟩
    have fl := fit_shortF hsh
    have hrd := Lib.hid (OwnG.rd hown)
    replace hb := Lib.hid hb
    clear hsh hown
    go_wp2_with fail
    refine (fdI_sort v L _ hrd.out fl).mono ?_
    rintro e w3 ⟨x, rfl, hownx, hb3⟩
    obtain ⟨X, hX⟩ : ∃ X, fdO L = X := ⟨_, rfl⟩
    rw [hX] at hownx
    replace hX := Lib.hid hX
    have hrdx := Lib.hid (OwnG.rd hownx)
    replace hrd := Lib.hid (hrd.out.below hb3)
    replace hb := Lib.hid (below_trans' hb.out hb3)
    clear hownx hb3
    go_wp2_with fail
    refine (fdS_sort v L _ hrd.out fl).mono ?_
    rintro e w4 ⟨y, rfl, howny, hb4⟩
    rw [hX.out] at howny
    have hrdy := Lib.hid (OwnG.rd howny)
    replace hrd := Lib.hid (hrd.out.below hb4)
    replace hrdx := Lib.hid (hrdx.out.below hb4)
    replace hb := Lib.hid (below_trans' hb.out hb4)
    clear howny hb4
    go_wp2_with fail
    refine (sameF_any x y X _ hrdx.out hrdy.out).mono ?_
    rintro e w5 ⟨rfl, n5, rfl⟩
    have hb5 := below_drewN w4 n5
    replace hrd := Lib.hid (hrd.out.below hb5)
    replace hrdx := Lib.hid (hrdx.out.below hb5)
    replace hb := Lib.hid (below_trans' hb.out hb5)
    obtain ⟨w5, hw5⟩ : ∃ w5, w4.drewN n5 = w5 := ⟨_, rfl⟩
    rw [hw5] at hrd hrdx hb ⊢
    clear hb5 hw5 hrdy
    obtain ⟨Ax, cx, hx, hcx, hmx, _⟩ := id hrdx.out
    subst hx
    unfold maxLen at hmx
    rcases hF : fdB L with _ | _
    · have hX0 : X = [] := by rw [← hX.out]; exact fdO_out hF
      subst hX0
      have HF := Lib.hid hF
      clear hF
      go_wp2_with fail
      refine (fdI_valid v L _ hrd.out fl).mono ?_
      rintro e w6 ⟨rfl, hb6⟩
      rw [HF.out]
      replace hb := Lib.hid (below_trans' hb.out hb6)
      clear hb6
      go_wp2_with (go_at_call 17; refine (alive_any _).mono ?_; rintro e w' ⟨rfl, rfl⟩)
      go_ret
      exact ⟨rfl, hb.out⟩
    · have HF := Lib.hid hF
      have hXs : X = srtF L := by rw [← hX.out]; exact fdO_in hF
      have hstep : Hid (∀ k (h1 : 0 < k) (hk : k < X.length), ltI X[k - 1] X[k] = true) := Lib.hid (by subst hXs; exact fun k h1 hk => srtF_step hF h1 hk)
      have hnew : Hid (newF X L = []) := Lib.hid (by rw [hXs]; exact srtF_new L)
      have hlen : Hid (X.length = L.length) := Lib.hid (by rw [hXs, srtF_len])
      have hag : Hid (fdO X = X) := Lib.hid (by rw [hXs]; exact srtF_again hF)
      have hfx : Hid (FitF X) := Lib.hid (by rw [hXs]; exact fitF_of (srtF_fdB hF))
      clear hF hXs
      go_wp2_with fail
      refine (fdI_valid v L _ hrd.out fl).mono ?_
      rintro e w6 ⟨rfl, hb6⟩
      rw [HF.out]
      replace hrd := Lib.hid (hrd.out.below hb6)
      replace hrdx := Lib.hid (hrdx.out.below hb6)
      replace hb := Lib.hid (below_trans' hb.out hb6)
      clear hb6
      go_wp2
      go_loopw [5] (fun i wr => ∃ k : Nat, k ≤ X.length ∧ i = .int .i64 ((k : Int) + 1) ∧ Hid (Below w6.heap.size w6 wr)) (fun i _ => (X.length + 1) - (intOf i).toNat)
      case atStart => exact ⟨0, Nat.zero_le _, rfl, Lib.hid (Below.refl _ _)⟩
      case round =>
        obtain ⟨k, hk, rfl, hbr⟩ := hrel
        by_cases hlt : k + 1 < X.length
        · have t0 : decide ((k : Int) + 1 < (X.length : Int)) = true := decide_eq_true (by omega)
          have hjj : (k : Int) + 1 < (X.length : Int) := by omega
          have hj0 : (0 : Int) ≤ (k : Int) + 1 := by omega
          have hj1 : (0 : Int) ≤ (k : Int) := by omega
          have hj2 : (k : Int) < (X.length : Int) := by omega
          obtain ⟨b, o, c, hv, _, _, hb0, h4⟩ := hrdx.out.some (by intro e; rw [e] at hlt; simp at hlt)
          obtain ⟨rfl, rfl⟩ : Ax = some ⟨b, o, none⟩ ∧ cx = c := by simpa using hv
          have hcells := Lib.hid (fun k (hk : k < X.length) => rdI_cells h4 hk)
          obtain ⟨c0, c1, c2, c3⟩ := rdI_at hcells.out hb0 hbr.out (k := k) (by omega)
          obtain ⟨d0, d1, d2, d3⟩ := rdI_at hcells.out hb0 hbr.out hlt
          have hst := hstep.out (k + 1) (by omega) hlt
          simp only [Nat.add_sub_cancel] at hst
          obtain ⟨e, he⟩ : ∃ e, X[k] = e := ⟨_, rfl⟩
          obtain ⟨f, hf⟩ : ∃ f, X[k + 1] = f := ⟨_, rfl⟩
          rw [he, hf] at hst
          rw [he] at c0 c1 c2 c3
          rw [hf] at d0 d1 d2 d3
          obtain ⟨ky, ti, bo, da⟩ := e
          obtain ⟨ky', ti', bo', da'⟩ := f
          simp only at c0 c1 c2 c3 d0 d1 d2 d3
          clear hv h4 he hf c1 c2 d1 d2
          have e1 : (k : Int) + 1 - 1 = (k : Int) := by omega
          have e2 := IntWalk.i64_in (k : Int) (by omega)
          have e3 := IntWalk.i64_in ((k : Int) + 1 - 1) (by omega)
          rcases ltI_iff.1 hst with h | ⟨h, h'⟩
          · simp only at h
            have q1 : decide (da < da') = false := decide_eq_false (by omega)
            have q2 : (da' == da) = false := by rw [beq_eq_false_iff_ne]; omega
            clear hst
            go_wp2
            go_quiet (fail)
            go_wp2
            go_roundw
            case rel => exact ⟨k + 1, by omega, by go_num, Lib.hid (Below.drawn hbr.out _)⟩
            case measure => simp [intOf]; omega
          · simp only at h h'
            subst h
            have q1 : decide (da < da) = false := decide_eq_false (by omega)
            have q2 : (da == da) = true := by simp
            have q3 : Op.bytesLess ky'.toList ky.toList = false := by
              rw [← ltI_key (a := ⟨ky', ti', bo', da⟩) (b := ⟨ky, ti, bo, da⟩) rfl]; exact ltI_asymm hst
            have q4 : (ky'.toList == ky.toList) = false := str_other (fun e => by
              subst e
              have h1 := ltI_key (a := ⟨ky', ti', bo', da⟩) (b := ⟨ky', ti, bo, da⟩) rfl
              have h2 := ltI_key (a := ⟨ky', ti, bo, da⟩) (b := ⟨ky', ti', bo', da⟩) rfl
              rw [ltI_asymm hst] at h1
              rw [hst] at h2
              simp only at h1 h2
              rw [← h1] at h2; cases h2)
            clear hst h'
            go_wp2
            go_quiet (fail)
            go_wp2
            go_roundw
            case rel => exact ⟨k + 1, by omega, by go_num, Lib.hid (Below.drawn hbr.out _)⟩
            case measure => simp [intOf]; omega
        · have t0 : decide ((k : Int) + 1 < (X.length : Int)) = false := decide_eq_false (by omega)
          replace hrd := Lib.hid (hrd.out.below hbr.out)
          replace hrdx := Lib.hid (hrdx.out.below hbr.out)
          replace hb := Lib.hid (below_trans' hb.out hbr.out)
          clear hbr
          obtain ⟨Al, cl, hl, hcl, hml, _⟩ := id hrd.out
          subst hl
          unfold maxLen at hml
          have t1 : ((X.length : Int) == (L.length : Int)) = true := by rw [hlen.out]; simp
          go_wp2_with fail
          refine (chI_new _ _ X L _ hrdx.out hrd.out hfx.out fl).mono ?_
          rintro e w7 ⟨z, rfl, hownz, hb7⟩
          rw [hnew.out] at hownz
          obtain ⟨Az, cz, hz⟩ := OwnF.shape hownz
          rw [List.length_nil] at hz
          subst hz
          replace hrdx := Lib.hid (hrdx.out.below hb7)
          replace hb := Lib.hid (below_trans' hb.out hb7)
          clear hownz hb7
          go_wp2_with fail
          refine (fdI_sort _ X _ hrdx.out hfx.out).mono ?_
          rintro e w8 ⟨z, rfl, hownz, hb8⟩
          rw [hag.out] at hownz
          have hrdz := OwnG.rd hownz
          replace hrdx := Lib.hid (hrdx.out.below hb8)
          replace hb := Lib.hid (below_trans' hb.out hb8)
          clear hownz hb8
          go_wp2_with fail
          refine (sameF_any z _ X _ hrdz hrdx.out).mono ?_
          rintro e w9 ⟨rfl, n9, rfl⟩
          replace hb := Lib.hid (below_trans' hb.out (below_drewN w8 n9))
          go_wp2
          go_ret
          exact ⟨rfl, hb.out⟩

/-! ### THE ROW's STEP: WRITTEN OUT: LEAVE IT -/
set_option maxRecDepth 100000 in
theorem lifted (os : Os) (started : os.Started) (H : Type) (enc : TypeId × Value → H) :
    ReturnsInHanded {} Try.checked os 3 .any (Rows.fnSortFeedSpec.pre6 enc Try.prog Try.f3 Rows.fnSortFeedRow.domain false) (Rows.fnSortFeedSpec.post enc Try.prog Try.f3 false true false false) := by
  refine returnsInHanded_of_change (C := Try.checked) own started (by kernel_rfl) Try.func3
    (ChangeSpec.witness6 (enc := enc) (C := Try.checked) false ⟨#[], #[.slice none 0 0], []⟩ 8 (by kernel_rfl) (by kernel_rfl) (by kernel_rfl) (by kernel_rfl)) ?_
  intro W base args ds gs before hval0 hW hcnd _
  have hval : ∀ (j : Nat) t v, Try.f3.params[j]? = some t → args[j]? = some v → Value.okWide Try.prog W .any base t v := hval0
  have hW' := hW
  obtain ⟨p, q, hA0, hV, rfl, hfz, hnd⟩ := hW
  have hA : DataW.TrodAll enc Try.prog W 0 (fun _ => true) true Try.f3.params.toList args.toList ds p := hA0
  rw [Try.params3] at hA hval
  obtain ⟨v0, vs0, d0, ds0, p0, q0, hargs, rfl, rfl, h0, r0⟩ := trodAll_cons hA
  obtain ⟨rfl, rfl, rfl⟩ := trodAll_nil r0
  obtain rfl : args = #[v0] := by cases args; simp_all
  obtain ⟨rfl, rfl⟩ := trodVars_none hV
  obtain ⟨a0, len0, cap0, rfl⟩ := okWide_slice Try.underlying22 (hval 0 22 v0 rfl rfl)
  have k0 := h0
  have lt0 : ∀ x ∈ p0, x.block < W.heap.size := by obtain ⟨m, hm⟩ := k0; exact DataW.trod_lt m _ _ _ hm
  obtain ⟨z0, w0⟩ : ∃ zs, IsRow .u8 W a0 len0 cap0 zs := by
    obtain ⟨fuel, hf⟩ := h0
    rcases open_ints Try.underlying22 Try.underlying5 (by kernel_rfl) hf with ⟨hcs, _⟩ | ⟨x, l, c, zs, hcs, _, hl, hm, hz, _, hcell, hwz⟩
    · simp [Value.cells] at hcs
      obtain ⟨rfl, rfl, rfl⟩ := hcs
      exact ⟨[], .inl ⟨rfl, rfl, rfl, rfl⟩⟩
    · simp [Value.cells] at hcs
      obtain ⟨rfl, rfl, rfl⟩ := hcs
      exact ⟨zs, .inr ⟨_, rfl, hl, hm, by simpa using hz, hcell, hwz⟩⟩
  clear hA0 hval0
  refine (walk a0 len0 cap0 z0 W w0).mono fun e W' ⟨he, bel⟩ => ?_
  subst he
  exact ⟨_, rfl, _, _, _, [], _, [], hW', trodAll_mk1 (shut_bool Try.underlying4 _), (trodAll_cons_mk (Below.trod laidOut (by kernel_rfl) (of_decide_eq_true (by kernel_rfl)) k0 bel lt0) trodAll_mk0), rfl, bel.frame _, fun h => by cases h⟩

theorem over : Rows.fnSortFeedRow.holds Try.pinned (OpenSpec.ofChange Rows.fnSortFeedSpec) :=
  OpenClaim.holds_of_wide 3 Try.f3 rfl rfl rfl rfl rfl rfl rfl ⟨rfl, rfl, rfl, rfl, rfl⟩ rfl rfl rfl rfl rfl (by kernel_rfl) Try.func3 (by kernel_rfl)
    (of_decide_eq_true (by kernel_rfl)) (by unfold Func.isWrapper; first | (rw [if_pos (by decide +kernel)]; kernel_rfl) | (rw [if_neg (by decide +kernel)]; exact ⟨rfl, rfl⟩))
    (fun os started H enc _ => lifted os started H enc)

/-- ████ THE STATEMENT ████ -/
theorem proved : Rows.FnSortFeedSaid := over
#print axioms proved
end Go.Proofs.Ytbljpbmpfmnemaa.fnSortFeed
