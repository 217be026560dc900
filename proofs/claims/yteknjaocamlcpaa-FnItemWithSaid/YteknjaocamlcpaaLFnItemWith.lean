/-
  'FnItemWith' answers true at every input, and each argument reads behind the call as before. Conditions: none.
  The frame is the kit's shell (proof-skeleton.mjs); the walk is the verifier's.
-/
import Derived.Test.YteknjaocamlcpaaRows
import Derived.Test.YteknjaocamlcpaaLawFd
import Derived.Test.YteknjaocamlcpaaGr
import Derived.Test.YteknjaocamlcpaaGv
import Derived.Test.YteknjaocamlcpaaGy
import Derived.Test.YteknjaocamlcpaaGc
import Derived.Lib.Hide
import Derived.Outline
import Derived.BigQuiet
import Derived.Deep.QuietTactic
import Derived.Deep.Draws
import Derived.Laws.OwnMore
import Derived.Laws.Rows
import Derived.WalkSpells
import Derived.Deep.RegionWith
import Derived.WalkKit
import Derived.ProofKit
import Derived.OpenShut
import Derived.ShutString
import Derived.ChangeOld
import Derived.Below
namespace Go.Proofs.Yteknjaocamlcpaa.fnItemWith
open Go.ChangeShapes Go.WideShapes Go.ChangeAt Go.RowKit
open Go.ChangeMaps (open_string shut_string)
set_option linter.unusedVariables false

theorem own : ownKnob Try.prog.godebug = none := by kernel_rfl
theorem laidOut : laidOutB Try.prog = true := by kernel_rfl

/-- WHAT THE WALK IS TOLD OF A SLICE OF INTEGERS THAT CAME IN: it is nil; or it leads to a row of 'cap' cells, the numbers 'zs' (the first 'len' are its elements, the rest its spare room), each fitting its kind. -/
def IsRow (k : IntKind) (w : World) (a : Option Addr) (len cap : Nat) (zs : List Int) : Prop :=
  (a = none ∧ len = 0 ∧ cap = 0 ∧ zs = []) ∨
  ∃ x, a = some x ∧ len ≤ cap ∧ cap ≤ maxLen ∧ zs.length = cap ∧ (∀ i, i < zs.length → w.cell? (x.add i) = some (.int k (zs.getD i 0))) ∧ ∀ n ∈ zs, (Lit.int k n).wf = true

/-! ### STEP 1: THE WALK: the Go text returns true, AND WRITES NOTHING THAT WAS THERE: 'Below w.heap.size w w'' (Derived/Below.lean: '.refl', '.alloc', '.drew', '.setCell' at a new block, '.trans'). Open each 'IsRow' by 'rcases' AHEAD of 'go_enter'; part every test ahead of the walk. -/
set_option maxRecDepth 100000 in
set_option maxHeartbeats 4000000 in
theorem walk (a0 : Option Addr) (len0 cap0 : Nat) (z0 : List Int) (w : World) (w0 : IsRow .u8 w a0 len0 cap0 z0) :
    Calls Try.prog 6 #[.slice a0 len0 cap0] w fun e w' => e = .returned (.bool true) ∧ Below w.heap.size w w' := by
  have hcode := codeArg_of w0
  have hcap := hcode.1
  have hcap2 := hcode.2.1
  unfold maxLen at hcap2
  clear w0
  by_cases hbig : 1048576 < len0
  · go_enter Try.func6, Try.ntmps6
    go_wp2
    go_ret
    exact ⟨rfl, Below.refl _ _⟩
  · go_enter Try.func6, Try.ntmps6
    go_wp2_with fail
    refine (drawFX_any w a0 len0 cap0 hcode).mono ?_
    rintro e w2 ⟨v, L, nk, rfl, h7, hnk, hsh, hown, hb2⟩
    have hfit := fit_shortF hsh
    have hrd2 := OwnG.rd hown
    have hform := OwnG.form hown
    have hb2 := Lib.hid hb2
    clear hsh hown
    have hS := fun x (h : RdG encI x v L) => fdS_with v L nk x h hfit
    have hI := fun x (h : RdG encI x v L) => fdI_with v L nk x h hfit
    have hR0 : ∀ k (hk : k < L.length), fdB L = true → (∀ i (hi : i < L.length), i < k → L[i].key ≠ nk) → L[k].key = nk → itW L nk = (L[k], true) := fun k hk hF h0 h1 => by rw [itW_in nk hF]; exact itW1_at hk h0 h1
    have hR1 : fdB L = false → itW L nk = (It.zero, false) := fun h => itW_out nk h
    have hR2 : (∀ i (hi : i < L.length), L[i].key ≠ nk) → itW L nk = (It.zero, false) := fun h => by
      unfold itW; split
      · exact itW1_none h
      · rfl
    obtain ⟨p, hp⟩ : ∃ p, itW L nk = p := ⟨_, rfl⟩
    rw [hp] at hS hI
    simp only [hp] at hR0 hR1 hR2
    obtain ⟨⟨ky, ti, bo, da⟩, ok⟩ := p
    have hS := Lib.hid hS
    have hR0 := Lib.hid hR0
    have hR1 := Lib.hid hR1
    have hR2 := Lib.hid hR2
    clear hp
    go_wp2_with fail
    refine (hI _ hrd2).mono ?_
    rintro e w3 ⟨rfl, hb3⟩
    have hrd3 := hrd2.below hb3
    have hb3 := Lib.hid (below_trans' hb2.out hb3)
    clear hI
    obtain ⟨w4, hw4⟩ : ∃ w4, w3.alloc (.cells #[.string ky, .string ti, .string bo, .int .i64 da] 28) = w4 := ⟨_, rfl⟩
    have hb4 : Below w3.heap.size w3 w4 := by rw [← hw4]; exact (Below.refl _ _).alloc (Nat.le_refl _) _
    have hrd4 := hrd3.below hb4
    have hb4 := Lib.hid (below_trans' hb3.out hb4)
    have hrow4 := Lib.hid (fun wX hX => row4 (wX := wX) hw4 hX)
    go_wp2_with fail
    have hw4 := Lib.hid hw4
    refine (hS.out _ hrd4).mono ?_
    rintro e w5 ⟨rfl, hb5⟩
    have hrd5 := hrd4.below hb5
    have hk5 := Lib.hid hb5
    have hb5 := Lib.hid (below_trans' hb4.out hb5)
    obtain ⟨w6, hw6⟩ : ∃ w6, w5.alloc (.cells #[.string ky, .string ti, .string bo, .int .i64 da] 28) = w6 := ⟨_, rfl⟩
    have hb6 : Below w5.heap.size w5 w6 := by rw [← hw6]; exact (Below.refl _ _).alloc (Nat.le_refl _) _
    have hrd6 := Lib.hid (hrd5.below hb6)
    have hk6 := Lib.hid (below_trans' hk5.out hb6)
    have hb6 := Lib.hid (below_trans' hb5.out hb6)
    obtain ⟨d0, d1, d2, d3⟩ := row4 hw6 (Below.refl _ _)
    obtain ⟨f0, f1, f2, f3⟩ := hrow4.out _ hk6.out
    have qq : (ok == ok) = true := by simp
    have q1 := str_same (a := ky) (b := ky) rfl
    have q2 := str_same (a := ti) (b := ti) rfl
    have q3 := str_same (a := bo) (b := bo) rfl
    have q4 : (da == da) = true := by simp
    obtain ⟨A, c, rfl⟩ : ∃ A c, v = .slice A L.length c := by
      rcases hform with ⟨rfl, rfl⟩ | ⟨g, cap, rfl, _⟩
      · exact ⟨none, 0, rfl⟩
      · exact ⟨_, _, rfl⟩
    clear hS hrd5 hrd4 hrd3 hrd2 hform
    go_wp2
    have hw6 := Lib.hid hw6
    clear d0 d1 d2 d3 f0 f1 f2 f3
    go_loopw [9] (fun i wr => ∃ k : Nat, k ≤ L.length ∧ i = .int .i64 k ∧ Hid ((k = 0 ∨ fdB L = true) ∧ ∀ i (hi : i < L.length), i < k → L[i].key ≠ nk) ∧ Hid (Below w6.heap.size w6 wr)) (fun i _ => L.length - (intOf i).toNat)
    case atStart => exact ⟨0, Nat.zero_le _, rfl, Lib.hid ⟨.inl rfl, by intro i hi h; omega⟩, Lib.hid (Below.refl _ _)⟩
    case round =>
      obtain ⟨k, hk, rfl, hp, hbr⟩ := hrel
      by_cases hlt : k < L.length
      · have hrdr := hrd6.out.below hbr.out
        have hjj : (k : Int) < (L.length : Int) := by omega
        have hj0 : (0 : Int) ≤ (k : Int) := by omega
        go_wp2_with fail
        refine (fdI_valid _ L _ hrdr hfit).mono ?_
        rintro e w8 ⟨rfl, hb8⟩
        have hrd8 := hrdr.below hb8
        have hB8 := Lib.hid (below_trans' hbr.out hb8)
        have hk8 := Lib.hid (below_trans' hk6.out hB8.out)
        have hE8 := Lib.hid (below_trans' hb6.out hB8.out)
        clear hb8
        obtain ⟨f0, f1, f2, f3⟩ := hrow4.out _ hk8.out
        rcases hF : fdB L with _ | _
        · obtain ⟨e1, e2⟩ : (⟨ky, ti, bo, da⟩ : It) = It.zero ∧ ok = false := by have := hR1.out hF; injection this with a b; exact ⟨a, b⟩
          unfold It.zero at e1
          obtain ⟨rfl, rfl, rfl, rfl⟩ : ky = ⟨#[]⟩ ∧ ti = ⟨#[]⟩ ∧ bo = ⟨#[]⟩ ∧ da = 0 := by injection e1 with a b c d; exact ⟨a, b, c, d⟩
          subst e2
          go_wp2_with (go_at_call 15; refine (alive_any _).mono ?_; rintro e w' ⟨rfl, rfl⟩)
          go_ret
          exact ⟨rfl, hE8.out⟩
        · obtain ⟨b', o', c', hv, _, _, hb', h4'⟩ := hrd8.some (by intro e; rw [e] at hlt; simp at hlt)
          obtain ⟨rfl, rfl⟩ : A = some ⟨b', o', none⟩ ∧ c = c' := by simpa using hv
          obtain ⟨c0, c1, c2, c3⟩ := rdI_cells h4' hlt
          have hno : L[k].key ≠ nk → ∀ i (hi : i < L.length), i < k + 1 → L[i].key ≠ nk := fun q i hi hik => by
            by_cases e : i = k
            · subst e; exact q
            · exact hp.out.2 i hi (by omega)
          have hat := hR0.out k hlt hF hp.out.2
          have HF := Lib.hid hF
          clear h4' hv hF
          obtain ⟨x, hx⟩ : ∃ x, L[k] = x := ⟨_, rfl⟩
          rw [hx] at c0 c1 c2 c3 hno hat
          obtain ⟨x0, x1, x2, x3⟩ := x
          simp only at c0 c1 c2 c3 hno hat
          by_cases hn : x0 = nk
          · obtain ⟨e1, rfl⟩ : (⟨ky, ti, bo, da⟩ : It) = ⟨x0, x1, x2, x3⟩ ∧ ok = true := by have := hat hn; injection this with a b; exact ⟨a, b⟩
            obtain ⟨rfl, rfl, rfl, rfl⟩ : ky = x0 ∧ ti = x1 ∧ bo = x2 ∧ da = x3 := by injection e1 with a b c d; exact ⟨a, b, c, d⟩
            have q := str_same hn
            clear e1 hat hno hx hn
            go_wp2
            go_quiet (fail)
            go_wp2
            go_ret
            exact ⟨rfl, Below.drawn hE8.out _⟩
          · have HN : Hid ((k + 1 = 0 ∨ fdB L = true) ∧ ∀ i (hi : i < L.length), i < k + 1 → L[i].key ≠ nk) := Lib.hid ⟨.inr HF.out, hno hn⟩
            have q := str_other hn
            clear hat hno hx hn
            go_wp2
            go_roundw
            case rel => exact ⟨k + 1, by omega, by go_num, HN, hB8⟩
            case measure => simp [intOf]; omega
      · obtain ⟨e1, e2⟩ : (⟨ky, ti, bo, da⟩ : It) = It.zero ∧ ok = false := by have := hR2.out (fun i hi => hp.out.2 i hi (by omega)); injection this with a b; exact ⟨a, b⟩
        unfold It.zero at e1
        obtain ⟨rfl, rfl, rfl, rfl⟩ : ky = ⟨#[]⟩ ∧ ti = ⟨#[]⟩ ∧ bo = ⟨#[]⟩ ∧ da = 0 := by injection e1 with a b c d; exact ⟨a, b, c, d⟩
        subst e2
        have hk8 := Lib.hid (below_trans' hk6.out hbr.out)
        obtain ⟨f0, f1, f2, f3⟩ := hrow4.out _ hk8.out
        go_wp2_with (go_at_call 15; refine (alive_any _).mono ?_; rintro e w' ⟨rfl, rfl⟩)
        go_ret
        exact ⟨rfl, below_trans' hb6.out hbr.out⟩

/-! ### THE ROW's STEP: WRITTEN OUT: LEAVE IT -/
set_option maxRecDepth 100000 in
theorem lifted (os : Os) (started : os.Started) (H : Type) (enc : TypeId × Value → H) :
    ReturnsInHanded {} Try.checked os 6 .any (Rows.fnItemWithSpec.pre6 enc Try.prog Try.f6 Rows.fnItemWithRow.domain false) (Rows.fnItemWithSpec.post enc Try.prog Try.f6 false true false false) := by
  refine returnsInHanded_of_change (C := Try.checked) own started (by kernel_rfl) Try.func6
    (ChangeSpec.witness6 (enc := enc) (C := Try.checked) false ⟨#[], #[.slice none 0 0], []⟩ 8 (by kernel_rfl) (by kernel_rfl) (by kernel_rfl) (by kernel_rfl)) ?_
  intro W base args ds gs before hval0 hW hcnd _
  have hval : ∀ (j : Nat) t v, Try.f6.params[j]? = some t → args[j]? = some v → Value.okWide Try.prog W .any base t v := hval0
  have hW' := hW
  obtain ⟨p, q, hA0, hV, rfl, hfz, hnd⟩ := hW
  have hA : DataW.TrodAll enc Try.prog W 0 (fun _ => true) true Try.f6.params.toList args.toList ds p := hA0
  rw [Try.params6] at hA hval
  obtain ⟨v0, vs0, d0, ds0, p0, q0, hargs, rfl, rfl, h0, r0⟩ := trodAll_cons hA
  obtain ⟨rfl, rfl, rfl⟩ := trodAll_nil r0
  obtain rfl : args = #[v0] := by cases args; simp_all
  obtain ⟨rfl, rfl⟩ := trodVars_none hV
  obtain ⟨a0, len0, cap0, rfl⟩ := okWide_slice Try.underlying22 (hval 0 22 v0 rfl rfl)
  have k0 := h0
  have lt0 : ∀ x ∈ p0, x.block < W.heap.size := by obtain ⟨m, hm⟩ := k0; exact DataW.trod_lt m _ _ _ hm
  obtain ⟨z0, w0⟩ : ∃ zs, IsRow .u8 W a0 len0 cap0 zs := by
    obtain ⟨fuel, hf⟩ := h0
    rcases open_ints Try.underlying22 Try.underlying5 (by kernel_rfl) hf with ⟨hcs, _⟩ | ⟨x, l, c, zs, hcs, _, hl, hm, hz, _, hcell, hwz⟩
    · simp [Value.cells] at hcs
      obtain ⟨rfl, rfl, rfl⟩ := hcs
      exact ⟨[], .inl ⟨rfl, rfl, rfl, rfl⟩⟩
    · simp [Value.cells] at hcs
      obtain ⟨rfl, rfl, rfl⟩ := hcs
      exact ⟨zs, .inr ⟨_, rfl, hl, hm, by simpa using hz, hcell, hwz⟩⟩
  clear hA0 hval0
  refine (walk a0 len0 cap0 z0 W w0).mono fun e W' ⟨he, bel⟩ => ?_
  subst he
  exact ⟨_, rfl, _, _, _, [], _, [], hW', trodAll_mk1 (shut_bool Try.underlying4 _), (trodAll_cons_mk (Below.trod laidOut (by kernel_rfl) (of_decide_eq_true (by kernel_rfl)) k0 bel lt0) trodAll_mk0), rfl, bel.frame _, fun h => by cases h⟩

theorem over : Rows.fnItemWithRow.holds Try.pinned (OpenSpec.ofChange Rows.fnItemWithSpec) :=
  OpenClaim.holds_of_wide 6 Try.f6 rfl rfl rfl rfl rfl rfl rfl ⟨rfl, rfl, rfl, rfl, rfl⟩ rfl rfl rfl rfl rfl (by kernel_rfl) Try.func6 (by kernel_rfl)
    (of_decide_eq_true (by kernel_rfl)) (by unfold Func.isWrapper; first | (rw [if_pos (by decide +kernel)]; kernel_rfl) | (rw [if_neg (by decide +kernel)]; exact ⟨rfl, rfl⟩))
    (fun os started H enc _ => lifted os started H enc)

/-- ████ THE STATEMENT ████ -/
theorem proved : Rows.FnItemWithSaid := over
#print axioms proved
end Go.Proofs.Yteknjaocamlcpaa.fnItemWith
