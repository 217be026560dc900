/-
  'FnFeedValid' answers true at every input, and each argument reads behind the call as before. Conditions: none.
  The frame is the kit's shell (proof-skeleton.mjs); the walk is the verifier's.
-/
import Derived.Test.YteknjaocamlcpaaRows
import Derived.Test.YteknjaocamlcpaaLawFd
import Derived.Test.YteknjaocamlcpaaGv
import Derived.Test.YteknjaocamlcpaaGw
import Derived.Test.YteknjaocamlcpaaGy
import Derived.Test.YteknjaocamlcpaaGc
import Derived.Lib.Hide
import Derived.Outline
import Derived.BigQuiet
import Derived.Deep.QuietTactic
import Derived.Deep.Draws
import Derived.Laws.OwnMore
import Derived.Laws.Rows
import Derived.WalkSpells
import Derived.Deep.RegionWith
import Derived.WalkKit
import Derived.ProofKit
import Derived.OpenShut
import Derived.ShutString
import Derived.ChangeOld
import Derived.Below
namespace Go.Proofs.Yteknjaocamlcpaa.fnFeedValid
open Go.ChangeShapes Go.WideShapes Go.ChangeAt Go.RowKit
open Go.ChangeMaps (open_string shut_string)
set_option linter.unusedVariables false

theorem own : ownKnob Try.prog.godebug = none := by kernel_rfl
theorem laidOut : laidOutB Try.prog = true := by kernel_rfl

/-- WHAT THE WALK IS TOLD OF A SLICE OF INTEGERS THAT CAME IN: it is nil; or it leads to a row of 'cap' cells, the numbers 'zs' (the first 'len' are its elements, the rest its spare room), each fitting its kind. -/
def IsRow (k : IntKind) (w : World) (a : Option Addr) (len cap : Nat) (zs : List Int) : Prop :=
  (a = none ∧ len = 0 ∧ cap = 0 ∧ zs = []) ∨
  ∃ x, a = some x ∧ len ≤ cap ∧ cap ≤ maxLen ∧ zs.length = cap ∧ (∀ i, i < zs.length → w.cell? (x.add i) = some (.int k (zs.getD i 0))) ∧ ∀ n ∈ zs, (Lit.int k n).wf = true

/-! ### STEP 1: THE WALK: the Go text returns true, AND WRITES NOTHING THAT WAS THERE: 'Below w.heap.size w w'' (Derived/Below.lean: '.refl', '.alloc', '.drew', '.setCell' at a new block, '.trans'). Open each 'IsRow' by 'rcases' AHEAD of 'go_enter'; part every test ahead of the walk. -/
set_option maxRecDepth 100000 in
set_option maxHeartbeats 4000000 in
theorem walk (a0 : Option Addr) (len0 cap0 : Nat) (z0 : List Int) (w : World) (w0 : IsRow .u8 w a0 len0 cap0 z0) :
    Calls Try.prog 3 #[.slice a0 len0 cap0] w fun e w' => e = .returned (.bool true) ∧ Below w.heap.size w w' := by
  have hcode := codeArg_of w0
  have hcap := hcode.1
  have hcap2 := hcode.2.1
  unfold maxLen at hcap2
  clear w0
  by_cases hbig : 1048576 < len0
  · go_enter Try.func3, Try.ntmps3
    go_wp2
    go_ret
    exact ⟨rfl, Below.refl _ _⟩
  · go_enter Try.func3, Try.ntmps3
    go_wp2_with fail
    refine (drawFV_any w a0 len0 cap0 hcode).mono ?_
    rintro e w2 ⟨v, L, rfl, h7, hsh, hown, hb2⟩
    have hfit := fit_shortF hsh
    have hrd2 := OwnG.rd hown
    have hb2 := Lib.hid hb2
    have hform := OwnG.form hown
    clear hsh hown
    go_wp2_with fail
    refine (fdI_valid v L _ hrd2 hfit).mono ?_
    rintro e w3 ⟨rfl, hb3⟩
    have hrd3 := hrd2.below hb3
    have hb3 := Lib.hid (below_trans' hb2.out hb3)
    go_wp2_with fail
    refine (fdS_valid v L _ hrd3 hfit).mono ?_
    rintro e w4 ⟨rfl, hb4⟩
    have hrd4 := hrd3.below hb4
    have hb4 := Lib.hid (below_trans' hb3.out hb4)
    have qq : (fdB L == fdB L) = true := by simp
    rcases hB : fdB L with _ | _
    · go_wp2_with (go_at_call 15; refine (alive_any _).mono ?_; rintro e w' ⟨rfl, rfl⟩)
      go_ret
      exact ⟨rfl, hb4.out⟩
    · rcases hform with ⟨rfl, rfl⟩ | ⟨g, cap, rfl, _⟩
      · go_wp2_with (go_at_call 15; refine (alive_any _).mono ?_; rintro e w' ⟨rfl, rfl⟩)
        go_ret
        exact ⟨rfl, hb4.out⟩
      · by_cases hz : L.length = 0
        · have hL : L = [] := List.length_eq_zero_iff.1 hz
          subst hL
          go_wp2_with (go_at_call 15; refine (alive_any _).mono ?_; rintro e w' ⟨rfl, rfl⟩)
          go_ret
          exact ⟨rfl, hb4.out⟩
        · have hpos : 0 < L.length := by omega
          have HT := Lib.hid (fdB_tail hB)
          have HA := Lib.hid (fdB_again hpos)
          have hfd : FitF (L.drop 1) := fun i m => hfit i (List.mem_of_mem_drop m)
          have hfa := Lib.hid (fit_again hfit hpos)
          have hcap6 : L.length ≤ cap ∧ cap ≤ maxLen := by
            obtain ⟨A, c, hv, q1, q2, _⟩ := hrd4
            obtain ⟨_, rfl⟩ : _ ∧ cap = c := by simpa using hv
            exact ⟨q1, q2⟩
          obtain ⟨hcap6, hcap7⟩ := hcap6
          have hz1 : ((L.length : Int) == 0) = false := by rw [beq_eq_false_iff_ne]; omega
          have hz2 : ¬ ((L.length : Int) = 0) := by omega
          have hz3 : (0 : Int) < (L.length : Int) := by omega
          have hz4 : (1 : Int) ≤ (L.length : Int) := by omega
          have hz5 : (1 : Int) ≤ (cap : Int) := by omega
          have hz6 : 1 ≤ L.length := by omega
          have hz7 : 1 ≤ cap := by omega
          have hll : ([L[0]] : List It).length + L.length ≤ 1073741824 := by simp; omega
          obtain ⟨b', o', c', hv, _, _, hb', h4'⟩ := hrd4.some (by intro e; rw [e] at hpos; simp at hpos)
          obtain ⟨⟨rfl, rfl⟩, rfl⟩ : (g = b' ∧ 0 = o') ∧ cap = c' := by simpa using hv
          have hc0 := Lib.hid (rdI_cells h4' hpos)
          obtain ⟨x, hx⟩ : ∃ x, L[0] = x := ⟨_, rfl⟩
          rw [hx] at hc0 HA hfa hll
          obtain ⟨ky, ti, bo, da⟩ := x
          simp only [Nat.zero_mul, Nat.zero_add] at hc0
          have hcells : Hid (∀ wX, Below w4.heap.size w4 wX → wX.cell? ⟨g, 0, none⟩ = some (.string ky) ∧ wX.cell? ⟨g, 1, none⟩ = some (.string ti) ∧ wX.cell? ⟨g, 2, none⟩ = some (.string bo) ∧ wX.cell? ⟨g, 3, none⟩ = some (.int .i64 da)) := Lib.hid (fun wX hX => by
            obtain ⟨c0, c1, c2, c3⟩ := hc0.out
            exact ⟨by rw [hX.cell (p := ⟨g, 0, none⟩) hb']; exact c0, by rw [hX.cell (p := ⟨g, 1, none⟩) hb']; exact c1, by rw [hX.cell (p := ⟨g, 2, none⟩) hb']; exact c2, by rw [hX.cell (p := ⟨g, 3, none⟩) hb']; exact c3⟩)
          have hrd4' := Lib.hid hrd4
          clear h4' hv hx hc0 hB
          by_cases hc1 : cap = 1
          · have hl1 : L.length = 1 := by omega
            have hD : Hid (∀ A' n' c', n' = 0 → c' ≤ 1 → RdG encI w4 (.slice A' n' c') (L.drop 1)) := Lib.hid (fun A' n' c' hn hc => rdG_dropA encI_len hrd4'.out 1 (by omega) A' n' c' (by omega) (by omega) (by omega) (by omega))
            go_wp2_with fail
            refine (fdI_valid _ (L.drop 1) _ (by first | exact hD.out _ _ _ rfl rfl rfl | exact hD.out _ _ _ (by omega) (by omega)) hfd).mono ?_
            rintro e w5 ⟨rfl, hb5⟩
            rw [HT.out]
            obtain ⟨c0, c1, c2, c3⟩ := hcells.out _ hb5
            have hrd5 := hrd4'.out.below hb5
            have hb5' := Lib.hid (below_trans' hb4.out hb5)
            clear hb5
            go_wp2_with (at_builtin; refine app_itemsG (by rfl) (.tmp 31) (.tmp 32) rfl w5.heap.size _ _ [(⟨ky, ti, bo, da⟩ : It)] L rfl (own_lit1I w5 _ (Nat.le_refl _) _ _ _ _) (by simp) rfl (by have t := hrd5.below ((Below.refl w5.heap.size w5).alloc (Nat.le_refl _) (.cells #[.string ky, .string ti, .string bo, .int .i64 da] 28)); first | exact t | (rw [hl1, hc1] at t; exact t)) hll ?_; intro v6 w6 hown6 hg6; have hB6 := Lib.hid (own_below (W := w5) (own_lit1I w5 _ (Nat.le_refl _) _ _ _ _) ((Below.refl _ _).alloc (Nat.le_refl _) _) hg6); have hrd6 := OwnG.rd hown6; clear hg6 hown6)
            refine (fdI_valid _ _ _ hrd6 hfa.out).mono ?_
            rintro e w7 ⟨rfl, hb7⟩
            rw [HA.out]
            go_wp2
            go_ret
            exact ⟨rfl, below_trans' (below_trans' hb5'.out hB6.out) hb7⟩
          · have hc2 : ¬ (cap - 1 = 0) := by omega
            have hc3 : 1 < cap := by omega
            have hD : Hid (∀ A' n' c', A' = some ⟨g, 4, none⟩ → n' = L.length - 1 → c' = cap - 1 → RdG encI w4 (.slice A' n' c') (L.drop 1)) := Lib.hid (fun A' n' c' hA hn hc => rdG_dropA encI_len hrd4'.out 1 (by omega) A' n' c' (fun _ => by rw [hA]) (by omega) (by omega) (by omega))
            go_wp2_with fail
            refine (fdI_valid _ (L.drop 1) _ (by first | exact hD.out _ _ _ rfl rfl rfl | exact hD.out _ _ _ (by omega) (by omega)) hfd).mono ?_
            rintro e w5 ⟨rfl, hb5⟩
            rw [HT.out]
            obtain ⟨c0, c1, c2, c3⟩ := hcells.out _ hb5
            have hrd5 := hrd4'.out.below hb5
            have hb5' := Lib.hid (below_trans' hb4.out hb5)
            clear hb5
            go_wp2_with (at_builtin; refine app_itemsG (by rfl) (.tmp 31) (.tmp 32) rfl w5.heap.size _ _ [(⟨ky, ti, bo, da⟩ : It)] L rfl (own_lit1I w5 _ (Nat.le_refl _) _ _ _ _) (by simp) rfl (by have t := hrd5.below ((Below.refl w5.heap.size w5).alloc (Nat.le_refl _) (.cells #[.string ky, .string ti, .string bo, .int .i64 da] 28)); first | exact t | (rw [hl1, hc1] at t; exact t)) hll ?_; intro v6 w6 hown6 hg6; have hB6 := Lib.hid (own_below (W := w5) (own_lit1I w5 _ (Nat.le_refl _) _ _ _ _) ((Below.refl _ _).alloc (Nat.le_refl _) _) hg6); have hrd6 := OwnG.rd hown6; clear hg6 hown6)
            refine (fdI_valid _ _ _ hrd6 hfa.out).mono ?_
            rintro e w7 ⟨rfl, hb7⟩
            rw [HA.out]
            go_wp2
            go_ret
            exact ⟨rfl, below_trans' (below_trans' hb5'.out hB6.out) hb7⟩

/-! ### THE ROW's STEP: WRITTEN OUT: LEAVE IT -/
set_option maxRecDepth 100000 in
theorem lifted (os : Os) (started : os.Started) (H : Type) (enc : TypeId × Value → H) :
    ReturnsInHanded {} Try.checked os 3 .any (Rows.fnFeedValidSpec.pre6 enc Try.prog Try.f3 Rows.fnFeedValidRow.domain false) (Rows.fnFeedValidSpec.post enc Try.prog Try.f3 false true false false) := by
  refine returnsInHanded_of_change (C := Try.checked) own started (by kernel_rfl) Try.func3
    (ChangeSpec.witness6 (enc := enc) (C := Try.checked) false ⟨#[], #[.slice none 0 0], []⟩ 8 (by kernel_rfl) (by kernel_rfl) (by kernel_rfl) (by kernel_rfl)) ?_
  intro W base args ds gs before hval0 hW hcnd _
  have hval : ∀ (j : Nat) t v, Try.f3.params[j]? = some t → args[j]? = some v → Value.okWide Try.prog W .any base t v := hval0
  have hW' := hW
  obtain ⟨p, q, hA0, hV, rfl, hfz, hnd⟩ := hW
  have hA : DataW.TrodAll enc Try.prog W 0 (fun _ => true) true Try.f3.params.toList args.toList ds p := hA0
  rw [Try.params3] at hA hval
  obtain ⟨v0, vs0, d0, ds0, p0, q0, hargs, rfl, rfl, h0, r0⟩ := trodAll_cons hA
  obtain ⟨rfl, rfl, rfl⟩ := trodAll_nil r0
  obtain rfl : args = #[v0] := by cases args; simp_all
  obtain ⟨rfl, rfl⟩ := trodVars_none hV
  obtain ⟨a0, len0, cap0, rfl⟩ := okWide_slice Try.underlying22 (hval 0 22 v0 rfl rfl)
  have k0 := h0
  have lt0 : ∀ x ∈ p0, x.block < W.heap.size := by obtain ⟨m, hm⟩ := k0; exact DataW.trod_lt m _ _ _ hm
  obtain ⟨z0, w0⟩ : ∃ zs, IsRow .u8 W a0 len0 cap0 zs := by
    obtain ⟨fuel, hf⟩ := h0
    rcases open_ints Try.underlying22 Try.underlying5 (by kernel_rfl) hf with ⟨hcs, _⟩ | ⟨x, l, c, zs, hcs, _, hl, hm, hz, _, hcell, hwz⟩
    · simp [Value.cells] at hcs
      obtain ⟨rfl, rfl, rfl⟩ := hcs
      exact ⟨[], .inl ⟨rfl, rfl, rfl, rfl⟩⟩
    · simp [Value.cells] at hcs
      obtain ⟨rfl, rfl, rfl⟩ := hcs
      exact ⟨zs, .inr ⟨_, rfl, hl, hm, by simpa using hz, hcell, hwz⟩⟩
  clear hA0 hval0
  refine (walk a0 len0 cap0 z0 W w0).mono fun e W' ⟨he, bel⟩ => ?_
  subst he
  exact ⟨_, rfl, _, _, _, [], _, [], hW', trodAll_mk1 (shut_bool Try.underlying4 _), (trodAll_cons_mk (Below.trod laidOut (by kernel_rfl) (of_decide_eq_true (by kernel_rfl)) k0 bel lt0) trodAll_mk0), rfl, bel.frame _, fun h => by cases h⟩

theorem over : Rows.fnFeedValidRow.holds Try.pinned (OpenSpec.ofChange Rows.fnFeedValidSpec) :=
  OpenClaim.holds_of_wide 3 Try.f3 rfl rfl rfl rfl rfl rfl rfl ⟨rfl, rfl, rfl, rfl, rfl⟩ rfl rfl rfl rfl rfl (by kernel_rfl) Try.func3 (by kernel_rfl)
    (of_decide_eq_true (by kernel_rfl)) (by unfold Func.isWrapper; first | (rw [if_pos (by decide +kernel)]; kernel_rfl) | (rw [if_neg (by decide +kernel)]; exact ⟨rfl, rfl⟩))
    (fun os started H enc _ => lifted os started H enc)

/-- ████ THE STATEMENT ████ -/
theorem proved : Rows.FnFeedValidSaid := over
#print axioms proved
end Go.Proofs.Yteknjaocamlcpaa.fnFeedValid
