/-
  'FnElementsValid' answers true at every input, and each argument reads behind the call as before. Conditions: none.
  The frame is the kit's shell (proof-skeleton.mjs); the walk is the verifier's.
-/
import Derived.Test.YtjdllminjpppbaaRows
import Derived.Test.YtjdllminjpppbaaGm
import Derived.Lib.Hide
import Derived.Outline
import Derived.BigQuiet
import Derived.Deep.QuietTactic
import Derived.Deep.Draws
import Derived.Laws.OwnMore
import Derived.Laws.Rows
import Derived.WalkSpells
import Derived.Deep.RegionWith
import Derived.WalkKit
import Derived.ProofKit
import Derived.OpenShut
import Derived.ShutString
import Derived.ChangeOld
import Derived.Below
namespace Go.Proofs.Ytjdllminjpppbaa.fnElementsValid
open Go.ChangeShapes Go.WideShapes Go.ChangeAt Go.RowKit
open Go.ChangeMaps (open_string shut_string)
set_option linter.unusedVariables false

theorem own : ownKnob Try.prog.godebug = none := by kernel_rfl
theorem laidOut : laidOutB Try.prog = true := by kernel_rfl

/-- WHAT THE WALK IS TOLD OF A SLICE OF INTEGERS THAT CAME IN: it is nil; or it leads to a row of 'cap' cells, the numbers 'zs' (the first 'len' are its elements, the rest its spare room), each fitting its kind. -/
def IsRow (k : IntKind) (w : World) (a : Option Addr) (len cap : Nat) (zs : List Int) : Prop :=
  (a = none ∧ len = 0 ∧ cap = 0 ∧ zs = []) ∨
  ∃ x, a = some x ∧ len ≤ cap ∧ cap ≤ maxLen ∧ zs.length = cap ∧ (∀ i, i < zs.length → w.cell? (x.add i) = some (.int k (zs.getD i 0))) ∧ ∀ n ∈ zs, (Lit.int k n).wf = true

/-! ### STEP 1: THE WALK: the Go text returns true, AND WRITES NOTHING THAT WAS THERE: 'Below w.heap.size w w'' (Derived/Below.lean: '.refl', '.alloc', '.drew', '.setCell' at a new block, '.trans'). Open each 'IsRow' by 'rcases' AHEAD of 'go_enter'; part every test ahead of the walk. -/
set_option maxRecDepth 100000 in
set_option maxHeartbeats 4000000 in
theorem walk (a0 : Option Addr) (len0 cap0 : Nat) (z0 : List Int) (w : World) (w0 : IsRow .u8 w a0 len0 cap0 z0) :
    Calls Try.prog 3 #[.slice a0 len0 cap0] w fun e w' => e = .returned (.bool true) ∧ Below w.heap.size w w' := by
  have hcode := codeArg_of w0
  have hcap := hcode.1
  have hcap2 := hcode.2.1
  unfold maxLen at hcap2
  clear w0
  by_cases hbig : 1048576 < len0
  · go_enter Try.func3, Try.ntmps3
    go_wp2
    go_ret
    exact ⟨rfl, Below.refl _ _⟩
  · go_enter Try.func3, Try.ntmps3
    go_wp2_with (go_at_call 11; refine (drawElV_any w a0 len0 cap0 hcode).mono ?_; rintro e w2 ⟨v, L, rfl, h9, hsh, hown, hb⟩)
    have hfit := fit_short hsh
    have hb2 := Lib.hid hb
    have hrd2 := OwnG.rd hown
    have hown2 := Lib.hid hown
    clear hb hsh hown
    have hz : Hid (elB ([((⟨#[]⟩ : ByteArray), (⟨#[]⟩ : ByteArray))] ++ L) = false) := Lib.hid (elB_bad (k := 0) (by simp) (by simp [okE]; intro h; revert h; decide))
    have hfz : FitE ([((⟨#[]⟩ : ByteArray), (⟨#[]⟩ : ByteArray))] ++ L) := by
      intro e m
      rcases List.mem_append.1 m with m | m
      · have : e = (⟨#[]⟩, ⟨#[]⟩) := by simpa using m
        subst this; exact ⟨by decide, by decide⟩
      · exact hfit e m
    go_wp2_with fail
    refine (elI_valid v L _ hrd2 hfit).mono ?_
    rintro e w3 ⟨rfl, hb3⟩
    have hrd3 := hrd2.below hb3
    have hb3 := Lib.hid (below_trans hb2.out hb3)
    go_wp2_with fail
    refine (elS_valid v L _ hrd3 hfit).mono ?_
    rintro e w4 ⟨rfl, rfl⟩
    have hsz3 := hb3.out.size
    have hb4 := Lib.hid (hb3.out.alloc hsz3 (.cells #[.string ⟨#[]⟩, .string ⟨#[]⟩] 27))
    have hrd4 := hrd3.below ((Below.refl w3.heap.size w3).alloc (Nat.le_refl _) (.cells #[.string ⟨#[]⟩, .string ⟨#[]⟩] 27))
    have hl1 : Hid (w3.heap.size ≤ (w3.alloc (.cells #[.string ⟨#[]⟩, .string ⟨#[]⟩] 27)).heap.size) := Lib.hid (by simp)
    have hrd3 := Lib.hid hrd3
    rcases hB : elB L with _ | _
    · go_wp2_with (at_builtin; refine app_els rfl (.tmp 17) (.tmp 18) rfl w3.heap.size _ _ [(⟨#[]⟩, ⟨#[]⟩)] L rfl (own_lit1 w3 _ _ _ (Nat.le_refl _)) hl1.out rfl hrd4 (by simp; omega) ?_; intro v5 w5 hown5 hg5)
      have hrd5 := OwnG.rd hown5
      have hb5 := Lib.hid (hb4.out.grown hg5 (Nat.le_trans hsz3 hl1.out) (fun k hk => by cases hk; exact hsz3))
      clear hown5 hg5
      refine (elI_valid _ _ _ hrd5 hfz).mono ?_
      rintro e w6 ⟨rfl, hb6⟩
      rw [hz.out]
      have hb6 := Lib.hid (below_trans hb5.out hb6)
      go_wp2_with (go_at_call 14; refine (alive_any _).mono ?_; rintro e w' ⟨rfl, rfl⟩)
      go_ret
      exact ⟨rfl, hb6.out⟩
    · have hD : Hid (∀ k, elB (L.drop k) = true) := Lib.hid (fun k => elB_of (by rw [List.length_drop]; have := elB_len hB; omega) (fun e m => elB_mem hB e (List.mem_of_mem_drop m)))
      have hfD : ∀ k, FitE (L.drop k) := fun k e m => hfit e (List.mem_of_mem_drop m)
      have hfD := Lib.hid hfD
      clear hB
      rcases OwnG.form hown2.out with ⟨rfl, rfl⟩ | ⟨g, cap, rfl, hg⟩
      · go_wp2_with (at_builtin; refine app_els rfl (.tmp 17) (.tmp 18) rfl w3.heap.size _ _ [(⟨#[]⟩, ⟨#[]⟩)] [] rfl (own_lit1 w3 _ _ _ (Nat.le_refl _)) hl1.out rfl hrd4 (by simp) ?_; intro v5 w5 hown5 hg5)
        have hrd5 := OwnG.rd hown5
        have hb5 := Lib.hid (hb4.out.grown hg5 (Nat.le_trans hsz3 hl1.out) (fun k hk => by cases hk; exact hsz3))
        clear hown5 hg5
        refine (elI_valid _ _ _ hrd5 hfz).mono ?_
        rintro e w6 ⟨rfl, hb6⟩
        rw [hz.out]
        have hb6 := Lib.hid (below_trans hb5.out hb6)
        go_wp2_with fail
        refine (elI_valid _ [] _ ⟨none, 0, rfl, by simp, by simp, .inl rfl⟩ (by intro e m; simp at m)).mono ?_
        rintro e w7 ⟨rfl, hb7⟩
        have hb7 := Lib.hid (below_trans hb6.out hb7)
        go_wp2_with (go_at_call 14; refine (alive_any _).mono ?_; rintro e w' ⟨rfl, rfl⟩)
        go_ret
        exact ⟨rfl, hb7.out⟩
      · have hcap6 : L.length ≤ cap ∧ cap ≤ maxLen := by
          obtain ⟨A, c, hv, hc, hc2, _⟩ := hrd2
          cases hv; exact ⟨hc, hc2⟩
        obtain ⟨hcap6, hcap7⟩ := hcap6
        go_wp2_with (at_builtin; refine app_els rfl (.tmp 17) (.tmp 18) rfl w3.heap.size _ _ [(⟨#[]⟩, ⟨#[]⟩)] L rfl (own_lit1 w3 _ _ _ (Nat.le_refl _)) hl1.out rfl hrd4 (by simp; omega) ?_; intro v5 w5 hown5 hg5)
        have hrd5 := OwnG.rd hown5
        have hb5 := Lib.hid (hb4.out.grown hg5 (Nat.le_trans hsz3 hl1.out) (fun k hk => by cases hk; exact hsz3))
        have hb5' := Lib.hid (((Below.refl w3.heap.size w3).alloc (Nat.le_refl _) (.cells #[.string ⟨#[]⟩, .string ⟨#[]⟩] 27)).grown hg5 hl1.out (fun k hk => by cases hk; exact Nat.le_refl _))
        clear hown5 hg5
        refine (elI_valid _ _ _ hrd5 hfz).mono ?_
        rintro e w6 ⟨rfl, hb6⟩
        rw [hz.out]
        have hb6' := Lib.hid (below_trans' hb5'.out hb6)
        have hb6 := Lib.hid (below_trans hb5.out hb6)
        by_cases hL : L = []
        · subst hL
          by_cases hc0 : cap = 0
          · subst hc0
            go_wp2_with fail
            refine (elI_valid _ [] _ ⟨some ⟨g, 0, none⟩, _, rfl, by simp, by unfold maxLen; omega, .inl rfl⟩ (by intro e m; simp at m)).mono ?_
            rintro e w7 ⟨rfl, hb7⟩
            have hb7 := Lib.hid (below_trans hb6.out hb7)
            go_wp2_with (go_at_call 14; refine (alive_any _).mono ?_; rintro e w' ⟨rfl, rfl⟩)
            go_ret
            exact ⟨rfl, hb7.out⟩
          · go_wp2_with fail
            refine (elI_valid _ [] _ ⟨some ⟨g, 0, none⟩, cap, rfl, by simp, hcap7, .inl rfl⟩ (by intro e m; simp at m)).mono ?_
            rintro e w7 ⟨rfl, hb7⟩
            have hb7 := Lib.hid (below_trans hb6.out hb7)
            go_wp2_with (go_at_call 14; refine (alive_any _).mono ?_; rintro e w' ⟨rfl, rfl⟩)
            go_ret
            exact ⟨rfl, hb7.out⟩
        · have hpos : 0 < L.length := List.length_pos_iff.2 hL
          have hrd6 := hrd3.out.below hb6'.out
          go_wp2_with fail
          refine (elI_valid _ (L.drop (L.length / 2)) _ (rdG_drop encE_len hrd6 hL (L.length / 2) (by omega) _ _ _ (by omega) rfl (by omega) (by omega)) (hfD.out _)).mono ?_
          rintro e w7 ⟨rfl, hb7⟩
          rw [hD.out]
          have hb7 := Lib.hid (below_trans hb6.out hb7)
          go_wp2_with (go_at_call 14; refine (alive_any _).mono ?_; rintro e w' ⟨rfl, rfl⟩)
          go_ret
          exact ⟨rfl, hb7.out⟩

/-! ### THE ROW's STEP: WRITTEN OUT: LEAVE IT -/
set_option maxRecDepth 100000 in
theorem lifted (os : Os) (started : os.Started) (H : Type) (enc : TypeId × Value → H) :
    ReturnsInHanded {} Try.checked os 3 .any (Rows.fnElementsValidSpec.pre6 enc Try.prog Try.f3 Rows.fnElementsValidRow.domain false) (Rows.fnElementsValidSpec.post enc Try.prog Try.f3 false true false false) := by
  refine returnsInHanded_of_change (C := Try.checked) own started (by kernel_rfl) Try.func3
    (ChangeSpec.witness6 (enc := enc) (C := Try.checked) false ⟨#[], #[.slice none 0 0], []⟩ 8 (by kernel_rfl) (by kernel_rfl) (by kernel_rfl) (by kernel_rfl)) ?_
  intro W base args ds gs before hval0 hW hcnd _
  have hval : ∀ (j : Nat) t v, Try.f3.params[j]? = some t → args[j]? = some v → Value.okWide Try.prog W .any base t v := hval0
  have hW' := hW
  obtain ⟨p, q, hA0, hV, rfl, hfz, hnd⟩ := hW
  have hA : DataW.TrodAll enc Try.prog W 0 (fun _ => true) true Try.f3.params.toList args.toList ds p := hA0
  rw [Try.params3] at hA hval
  obtain ⟨v0, vs0, d0, ds0, p0, q0, hargs, rfl, rfl, h0, r0⟩ := trodAll_cons hA
  obtain ⟨rfl, rfl, rfl⟩ := trodAll_nil r0
  obtain rfl : args = #[v0] := by cases args; simp_all
  obtain ⟨rfl, rfl⟩ := trodVars_none hV
  obtain ⟨a0, len0, cap0, rfl⟩ := okWide_slice Try.underlying22 (hval 0 22 v0 rfl rfl)
  have k0 := h0
  have lt0 : ∀ x ∈ p0, x.block < W.heap.size := by obtain ⟨m, hm⟩ := k0; exact DataW.trod_lt m _ _ _ hm
  obtain ⟨z0, w0⟩ : ∃ zs, IsRow .u8 W a0 len0 cap0 zs := by
    obtain ⟨fuel, hf⟩ := h0
    rcases open_ints Try.underlying22 Try.underlying5 (by kernel_rfl) hf with ⟨hcs, _⟩ | ⟨x, l, c, zs, hcs, _, hl, hm, hz, _, hcell, hwz⟩
    · simp [Value.cells] at hcs
      obtain ⟨rfl, rfl, rfl⟩ := hcs
      exact ⟨[], .inl ⟨rfl, rfl, rfl, rfl⟩⟩
    · simp [Value.cells] at hcs
      obtain ⟨rfl, rfl, rfl⟩ := hcs
      exact ⟨zs, .inr ⟨_, rfl, hl, hm, by simpa using hz, hcell, hwz⟩⟩
  clear hA0 hval0
  refine (walk a0 len0 cap0 z0 W w0).mono fun e W' ⟨he, bel⟩ => ?_
  subst he
  exact ⟨_, rfl, _, _, _, [], _, [], hW', trodAll_mk1 (shut_bool Try.underlying4 _), (trodAll_cons_mk (Below.trod laidOut (by kernel_rfl) (of_decide_eq_true (by kernel_rfl)) k0 bel lt0) trodAll_mk0), rfl, bel.frame _, fun h => by cases h⟩

theorem over : Rows.fnElementsValidRow.holds Try.pinned (OpenSpec.ofChange Rows.fnElementsValidSpec) :=
  OpenClaim.holds_of_wide 3 Try.f3 rfl rfl rfl rfl rfl rfl rfl ⟨rfl, rfl, rfl, rfl, rfl⟩ rfl rfl rfl rfl rfl (by kernel_rfl) Try.func3 (by kernel_rfl)
    (of_decide_eq_true (by kernel_rfl)) (by unfold Func.isWrapper; first | (rw [if_pos (by decide +kernel)]; kernel_rfl) | (rw [if_neg (by decide +kernel)]; exact ⟨rfl, rfl⟩))
    (fun os started H enc _ => lifted os started H enc)

/-- ████ THE STATEMENT ████ -/
theorem proved : Rows.FnElementsValidSaid := over
#print axioms proved
end Go.Proofs.Ytjdllminjpppbaa.fnElementsValid
