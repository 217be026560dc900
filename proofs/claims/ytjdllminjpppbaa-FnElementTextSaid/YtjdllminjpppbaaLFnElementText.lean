/-
  'FnElementText' answers true at every input, and each argument reads behind the call as before. Conditions: none.
  The frame is the kit's shell (proof-skeleton.mjs); the walk is the verifier's.
-/
import Derived.Test.YtjdllminjpppbaaRows
import Derived.Test.YtjdllminjpppbaaGl
import Derived.Test.YtjdllminjpppbaaGi
import Derived.Test.YtjdllminjpppbaaGc
import Derived.Lib.Hide
import Derived.Outline
import Derived.BigQuiet
import Derived.Deep.QuietTactic
import Derived.Deep.Draws
import Derived.Laws.OwnMore
import Derived.Laws.Rows
import Derived.WalkSpells
import Derived.Deep.RegionWith
import Derived.WalkKit
import Derived.ProofKit
import Derived.OpenShut
import Derived.ShutString
import Derived.ChangeOld
import Derived.Below
namespace Go.Proofs.Ytjdllminjpppbaa.fnElementText
open Go.ChangeShapes Go.WideShapes Go.ChangeAt Go.RowKit
open Go.ChangeMaps (open_string shut_string)
set_option linter.unusedVariables false

theorem own : ownKnob Try.prog.godebug = none := by kernel_rfl
theorem laidOut : laidOutB Try.prog = true := by kernel_rfl

/-- WHAT THE WALK IS TOLD OF A SLICE OF INTEGERS THAT CAME IN: it is nil; or it leads to a row of 'cap' cells, the numbers 'zs' (the first 'len' are its elements, the rest its spare room), each fitting its kind. -/
def IsRow (k : IntKind) (w : World) (a : Option Addr) (len cap : Nat) (zs : List Int) : Prop :=
  (a = none ∧ len = 0 ∧ cap = 0 ∧ zs = []) ∨
  ∃ x, a = some x ∧ len ≤ cap ∧ cap ≤ maxLen ∧ zs.length = cap ∧ (∀ i, i < zs.length → w.cell? (x.add i) = some (.int k (zs.getD i 0))) ∧ ∀ n ∈ zs, (Lit.int k n).wf = true

/-! ### STEP 1: THE WALK: the Go text returns true, AND WRITES NOTHING THAT WAS THERE: 'Below w.heap.size w w'' (Derived/Below.lean: '.refl', '.alloc', '.drew', '.setCell' at a new block, '.trans'). Open each 'IsRow' by 'rcases' AHEAD of 'go_enter'; part every test ahead of the walk. -/
set_option maxRecDepth 100000 in
set_option maxHeartbeats 4000000 in
theorem walk (a0 : Option Addr) (len0 cap0 : Nat) (z0 : List Int) (w : World) (w0 : IsRow .u8 w a0 len0 cap0 z0) :
    Calls Try.prog 6 #[.slice a0 len0 cap0] w fun e w' => e = .returned (.bool true) ∧ Below w.heap.size w w' := by
  have hcode := codeArg_of w0
  have hcap := hcode.1
  have hcap2 := hcode.2.1
  unfold maxLen at hcap2
  clear w0
  by_cases hbig : 1048576 < len0
  · go_enter Try.func6, Try.ntmps6
    go_wp2
    go_ret
    exact ⟨rfl, Below.refl _ _⟩
  · go_enter Try.func6, Try.ntmps6
    go_wp2_with (go_at_call 22; refine (drawElX_any w a0 len0 cap0 hcode).mono ?_; rintro e w2 ⟨v, L, n, rfl, h9, hn, hsh, hown, hb⟩)
    have hfit := fit_short hsh
    have hb2 := Lib.hid hb
    have hrd2 := OwnG.rd hown
    clear hb hsh hown
    obtain ⟨p, hp⟩ : ∃ p, elX L n = p := ⟨_, rfl⟩
    obtain ⟨t, ok⟩ := p
    have HX := Lib.hid hp
    have q0 := str_same (a := t) (b := t) rfl
    clear hp
    go_wp2_with fail
    refine (elI_find v L n _ hrd2 hfit).mono ?_
    rintro e w3 ⟨rfl, hb3⟩
    rw [HX.out]
    have hrd3 := hrd2.below hb3
    have hb3 := Lib.hid (below_trans hb2.out hb3)
    go_wp2_with fail
    refine (elS_find v L n _ hrd3 hfit).mono ?_
    rintro e w4 ⟨rfl, rfl⟩
    rw [HX.out]
    rcases hB : elB L with _ | _
    · have HB := Lib.hid hB
      have he : (t, ok) = (bs [], false) := by rw [← HX.out]; exact elX_out n hB
      obtain ⟨rfl, rfl⟩ : t = bs [] ∧ ok = false := by simpa using he
      have z : (bs []).toList = [] := str_nil rfl
      clear he hB
      obtain ⟨A, c, rfl, hc⟩ : ∃ A c, v = .slice A L.length c ∧ L.length ≤ c := by
        obtain ⟨A, c, hv, hc, _⟩ := hrd3; exact ⟨A, c, hv, hc⟩
      go_wp2
      by_cases h0 : L.length = 0
      · refine wp_loop_rounds 1 ?_
        rw [rounds_succ]
        have l0 : ((L.length : Nat) : Int) = 0 := by omega
        go_wp2_with (go_at_call 14; refine (alive_any _).mono ?_; rintro e w' ⟨rfl, rfl⟩)
        go_ret
        exact ⟨rfl, hb3.out⟩
      · have hpos : 0 < L.length := by omega
        refine wp_loop_rounds 1 ?_
        rw [rounds_succ]
        go_wp2_with (first | (go_at_call 12; refine (elI_valid _ L _ hrd3 hfit).mono ?_; rintro e w5 ⟨rfl, hb5⟩; rw [HB.out]; have hb5 := Lib.hid (below_trans' hb3.out hb5)) | (go_at_call 14; refine (alive_any _).mono ?_; rintro e w' ⟨rfl, rfl⟩))
        go_ret
        exact ⟨rfl, hb5.out⟩
    · have HB := Lib.hid hB
      have H1 : Hid (elX1 L n = (t, ok)) := Lib.hid (by rw [← HX.out]; exact (elX_in n hB).symm)
      clear hB
      by_cases hL : L = []
      · subst hL
        have he := H1.out
        obtain ⟨rfl, rfl⟩ : bs [] = t ∧ false = ok := by simpa [elX1] using he
        have z : (bs []).toList = [] := str_nil rfl
        obtain ⟨A, c, rfl, hc⟩ := hrd3.nil
        clear he
        go_wp2
        refine wp_loop_rounds 1 ?_
        rw [rounds_succ]
        go_wp2_with (go_at_call 14; refine (alive_any _).mono ?_; rintro e w' ⟨rfl, rfl⟩)
        go_ret
        exact ⟨rfl, hb3.out⟩
      · obtain ⟨b, o, c, rfl, h1, h2, hbl, h4⟩ := hrd3.some hL
        unfold maxLen at h2
        have hcells := Lib.hid (fun k (hk : k < L.length) => rdE_cells h4 hk)
        have hrd3 := Lib.hid hrd3
        clear h4 hL
        go_wp2
        go_loopw [9] (fun i wr => ∃ k : Nat, k ≤ L.length ∧ i = .int .i64 k ∧ Hid (∀ i (hi : i < L.length), i < k → L[i].1 ≠ n) ∧ Hid (Below w3.heap.size w3 wr)) (fun i _ => L.length - (intOf i).toNat)
        case atStart => exact ⟨0, Nat.zero_le _, rfl, Lib.hid (by intro i hi h; omega), Lib.hid (Below.refl _ _)⟩
        case round =>
          obtain ⟨k, hk, rfl, hp, hbr⟩ := hrel
          by_cases hlt : k < L.length
          · have hrdr := hrd3.out.below hbr.out
            go_wp2_with fail
            refine (elI_valid _ L _ hrdr hfit).mono ?_
            rintro e w5 ⟨rfl, hb5⟩
            rw [HB.out]
            have hb5 := Lib.hid (below_trans' hbr.out hb5)
            have hbW := Lib.hid (below_trans' hb3.out hb5.out)
            obtain ⟨c0, c1⟩ := hcells.out k hlt
            rw [← hb5.out.cell (p := ⟨b, o + k * 2, none⟩) hbl] at c0
            rw [← hb5.out.cell (p := ⟨b, o + k * 2 + 1, none⟩) hbl] at c1
            have hat := fun q => elX1_at (n := n) hlt hp.out q
            have hno : L[k].1 ≠ n → ∀ i (hi : i < L.length), i < k + 1 → L[i].1 ≠ n := fun q i hi hik => by
              by_cases e : i = k
              · subst e; exact q
              · exact hp.out i hi (by omega)
            obtain ⟨e, he⟩ : ∃ e, L[k] = e := ⟨_, rfl⟩
            rw [he] at c0 c1 hat hno
            obtain ⟨nm, tx⟩ := e
            simp only at c0 c1 hat hno
            have hj0 : (0 : Int) ≤ (k : Int) := by omega
            have hjj : (k : Int) < (L.length : Int) := by omega
            by_cases hnn : nm = n
            · have he2 := H1.out.symm.trans (hat hnn)
              obtain ⟨rfl, rfl⟩ : t = tx ∧ ok = true := by simpa using he2
              have q := str_same hnn
              clear hat hno he hnn he2
              go_wp2
              go_ret
              exact ⟨rfl, hbW.out⟩
            · have HN := Lib.hid (hno hnn)
              have q := str_other hnn
              clear hat hno he hnn
              go_wp2
              go_roundw
              case rel => exact ⟨k + 1, by omega, by go_num, HN, hb5⟩
              case measure => simp [intOf]; omega
          · have he2 := H1.out.symm.trans (elX1_none (L := L) (n := n) (fun i hi => hp.out i hi (by omega)))
            have hbW := Lib.hid (below_trans' hb3.out hbr.out)
            obtain ⟨rfl, rfl⟩ : t = bs [] ∧ ok = false := by simpa using he2
            have z : (bs []).toList = [] := str_nil rfl
            clear he2
            go_wp2_with (go_at_call 14; refine (alive_any _).mono ?_; rintro e w' ⟨rfl, rfl⟩)
            go_ret
            exact ⟨rfl, hbW.out⟩

/-! ### THE ROW's STEP: WRITTEN OUT: LEAVE IT -/
set_option maxRecDepth 100000 in
theorem lifted (os : Os) (started : os.Started) (H : Type) (enc : TypeId × Value → H) :
    ReturnsInHanded {} Try.checked os 6 .any (Rows.fnElementTextSpec.pre6 enc Try.prog Try.f6 Rows.fnElementTextRow.domain false) (Rows.fnElementTextSpec.post enc Try.prog Try.f6 false true false false) := by
  refine returnsInHanded_of_change (C := Try.checked) own started (by kernel_rfl) Try.func6
    (ChangeSpec.witness6 (enc := enc) (C := Try.checked) false ⟨#[], #[.slice none 0 0], []⟩ 8 (by kernel_rfl) (by kernel_rfl) (by kernel_rfl) (by kernel_rfl)) ?_
  intro W base args ds gs before hval0 hW hcnd _
  have hval : ∀ (j : Nat) t v, Try.f6.params[j]? = some t → args[j]? = some v → Value.okWide Try.prog W .any base t v := hval0
  have hW' := hW
  obtain ⟨p, q, hA0, hV, rfl, hfz, hnd⟩ := hW
  have hA : DataW.TrodAll enc Try.prog W 0 (fun _ => true) true Try.f6.params.toList args.toList ds p := hA0
  rw [Try.params6] at hA hval
  obtain ⟨v0, vs0, d0, ds0, p0, q0, hargs, rfl, rfl, h0, r0⟩ := trodAll_cons hA
  obtain ⟨rfl, rfl, rfl⟩ := trodAll_nil r0
  obtain rfl : args = #[v0] := by cases args; simp_all
  obtain ⟨rfl, rfl⟩ := trodVars_none hV
  obtain ⟨a0, len0, cap0, rfl⟩ := okWide_slice Try.underlying22 (hval 0 22 v0 rfl rfl)
  have k0 := h0
  have lt0 : ∀ x ∈ p0, x.block < W.heap.size := by obtain ⟨m, hm⟩ := k0; exact DataW.trod_lt m _ _ _ hm
  obtain ⟨z0, w0⟩ : ∃ zs, IsRow .u8 W a0 len0 cap0 zs := by
    obtain ⟨fuel, hf⟩ := h0
    rcases open_ints Try.underlying22 Try.underlying5 (by kernel_rfl) hf with ⟨hcs, _⟩ | ⟨x, l, c, zs, hcs, _, hl, hm, hz, _, hcell, hwz⟩
    · simp [Value.cells] at hcs
      obtain ⟨rfl, rfl, rfl⟩ := hcs
      exact ⟨[], .inl ⟨rfl, rfl, rfl, rfl⟩⟩
    · simp [Value.cells] at hcs
      obtain ⟨rfl, rfl, rfl⟩ := hcs
      exact ⟨zs, .inr ⟨_, rfl, hl, hm, by simpa using hz, hcell, hwz⟩⟩
  clear hA0 hval0
  refine (walk a0 len0 cap0 z0 W w0).mono fun e W' ⟨he, bel⟩ => ?_
  subst he
  exact ⟨_, rfl, _, _, _, [], _, [], hW', trodAll_mk1 (shut_bool Try.underlying4 _), (trodAll_cons_mk (Below.trod laidOut (by kernel_rfl) (of_decide_eq_true (by kernel_rfl)) k0 bel lt0) trodAll_mk0), rfl, bel.frame _, fun h => by cases h⟩

theorem over : Rows.fnElementTextRow.holds Try.pinned (OpenSpec.ofChange Rows.fnElementTextSpec) :=
  OpenClaim.holds_of_wide 6 Try.f6 rfl rfl rfl rfl rfl rfl rfl ⟨rfl, rfl, rfl, rfl, rfl⟩ rfl rfl rfl rfl rfl (by kernel_rfl) Try.func6 (by kernel_rfl)
    (of_decide_eq_true (by kernel_rfl)) (by unfold Func.isWrapper; first | (rw [if_pos (by decide +kernel)]; kernel_rfl) | (rw [if_neg (by decide +kernel)]; exact ⟨rfl, rfl⟩))
    (fun os started H enc _ => lifted os started H enc)

/-- ████ THE STATEMENT ████ -/
theorem proved : Rows.FnElementTextSaid := over
#print axioms proved
end Go.Proofs.Ytjdllminjpppbaa.fnElementText
