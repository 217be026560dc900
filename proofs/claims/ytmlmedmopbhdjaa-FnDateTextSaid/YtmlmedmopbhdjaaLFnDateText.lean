/-
  'FnDateText' answers true at every input, and each argument reads behind the call as before. Conditions: none.
  The frame is the kit's shell (proof-skeleton.mjs); the walk is the verifier's.
-/
import Derived.Test.YtmlmedmopbhdjaaRows
import Derived.Test.YtmlmedmopbhdjaaDateTI
import Derived.Test.YtmlmedmopbhdjaaDateTS
import Derived.Test.YtmlmedmopbhdjaaRDateI2
import Derived.Test.YtmlmedmopbhdjaaDateLess
import Derived.Test.YtmlmedmopbhdjaaDDay
import Derived.Test.YtmlmedmopbhdjaaAlive
import Derived.WalkLawsBesides
import Derived.Lib.Hide
import Derived.Outline
import Derived.BigQuiet
import Derived.Deep.QuietTactic
import Derived.Deep.Draws
import Derived.Laws.OwnMore
import Derived.Laws.Rows
import Derived.WalkSpells
import Derived.Deep.RegionWith
import Derived.WalkKit
import Derived.ProofKit
import Derived.OpenShut
import Derived.ShutString
import Derived.ChangeOld
import Derived.Below
namespace Go.Proofs.Ytmlmedmopbhdjaa.fnDateText
open Go.ChangeShapes Go.WideShapes Go.ChangeAt Go.RowKit
open Go.ChangeMaps (open_string shut_string)
set_option linter.unusedVariables false

theorem own : ownKnob Try.prog.godebug = none := by kernel_rfl
theorem laidOut : laidOutB Try.prog = true := by kernel_rfl

/-- WHAT THE WALK IS TOLD OF A SLICE OF INTEGERS THAT CAME IN: it is nil; or it leads to a row of 'cap' cells, the numbers 'zs' (the first 'len' are its elements, the rest its spare room), each fitting its kind. -/
def IsRow (k : IntKind) (w : World) (a : Option Addr) (len cap : Nat) (zs : List Int) : Prop :=
  (a = none ∧ len = 0 ∧ cap = 0 ∧ zs = []) ∨
  ∃ x, a = some x ∧ len ≤ cap ∧ cap ≤ maxLen ∧ zs.length = cap ∧ (∀ i, i < zs.length → w.cell? (x.add i) = some (.int k (zs.getD i 0))) ∧ ∀ n ∈ zs, (Lit.int k n).wf = true

/-! ### STEP 1: THE WALK: the Go text returns true, AND WRITES NOTHING THAT WAS THERE: 'Below w.heap.size w w'' (Derived/Below.lean: '.refl', '.alloc', '.drew', '.setCell' at a new block, '.trans'). Open each 'IsRow' by 'rcases' AHEAD of 'go_enter'; part every test ahead of the walk. -/
theorem walk (a0 : Option Addr) (len0 cap0 : Nat) (z0 : List Int) (w : World) (w0 : IsRow .u8 w a0 len0 cap0 z0) :
    Calls Try.prog 6 #[.slice a0 len0 cap0] w fun e w' => e = .returned (.bool true) ∧ Below w.heap.size w w' := by
  have hcode := codeArg_of w0
  have hcap := hcode.1
  have hcap2 := hcode.2.1
  unfold maxLen at hcap2
  clear w0
  by_cases hbig : 1048576 < len0
  · go_enter Try.func6, Try.ntmps6
    go_wp2
    go_ret
    exact ⟨rfl, Below.refl _ _⟩
  · go_enter Try.func6, Try.ntmps6
    go_wp2_with (go_at_call 23; refine (drawDate_any w a0 len0 cap0 hcode).mono ?_; rintro e w2 ⟨n, rfl, hb⟩)
    obtain ⟨s, hs⟩ : ∃ s, bs (dateT n) = s := ⟨_, rfl⟩
    obtain ⟨t, ht⟩ : ∃ t, bs (dateT (n + 1)) = t := ⟨_, rfl⟩
    by_cases hout : n < 0 ∨ 1460969 < n
    · have z : s.toList = [] := by rw [← hs, dateT_out hout]; exact str_nil rfl
      have hsm : s.size ≤ maxLen := by rw [← hs, dateT_out hout]; decide
      have HR : Hid (readD s.data.toList = -1) := Lib.hid (by rw [← hs, dateT_out hout]; exact readD_nil)
      have HS := Lib.hid hs
      have HT := Lib.hid ht
      clear hs ht hout
      go_wp2_with (first | (go_at_call 24; refine (dateI_any _ _).mono ?_; rintro e w3 ⟨rfl, hb3⟩; rw [HS.out]) | (go_at_call 25; refine (dateS_any _ _).mono ?_; rintro e w4 ⟨rfl, hb4⟩; rw [HS.out]) | (go_at_call 26; refine (rdI_any _ _ hsm).mono ?_; rintro e w' ⟨rfl, rfl⟩; rw [HR.out]) | (go_at_call 17; refine (alive_any _).mono ?_; rintro e w' ⟨rfl, rfl⟩))
      go_ret
      exact ⟨rfl, below_trans (below_trans hb hb3) hb4⟩
    · have n0 : 0 ≤ n := by omega
      have n1 : n ≤ 1460969 := by omega
      obtain ⟨l10, hrd⟩ := dateT_ten n0 n1
      have hsz : s.size = 10 := by rw [← hs, bs_size]; exact l10
      have hsm : s.size ≤ maxLen := by rw [hsz]; decide
      have hs10 : s.size ≤ 10 := by omega
      have e10 : ((s.size : Int) == 10) = true := by rw [hsz]; rfl
      have HR : Hid (readD s.data.toList = n) := Lib.hid (by rw [← hs]; exact hrd)
      have z := str_ne (s := s) (by omega)
      have z2 := str_full (s := s) (by omega)
      have hq : t.toList = [] ∨ (¬ t.toList = [] ∧ t.toList.isEmpty = false ∧ Op.bytesLess t.toList s.toList = false ∧ (t.toList == s.toList) = false) := by
        by_cases h1 : n + 1 ≤ 1460969
        · obtain ⟨x1, x2⟩ := dateT_next n0 h1
          have tz : t.size ≠ 0 := by rw [← ht, bs_size, (dateT_ten (by omega) h1).1]; omega
          refine .inr ⟨str_ne tz, str_full tz, ?_, str_other ?_⟩
          · rw [← hs, ← ht, ByteArray.toList_eq, ByteArray.toList_eq]; exact x1
          · rw [← hs, ← ht]; intro e; exact x2 (bs_inj e)
        · exact .inl (by rw [← ht, dateT_out (by omega)]; exact str_nil rfl)
      have HS := Lib.hid hs
      have HT := Lib.hid ht
      clear hs ht hout hsz hrd l10
      rcases hq with hq | ⟨hq1, hq2, hq3, hq4⟩
      all_goals
        go_wp2_with (first | (go_at_call 24; refine (dateI_any _ _).mono ?_; rintro e w3 ⟨rfl, hb3⟩; (first | rw [HS.out] | rw [HT.out]); have hb := Lib.hid (below_trans (by first | exact hb.out | exact hb) hb3); clear hb3) | (go_at_call 25; refine (dateS_any _ _).mono ?_; rintro e w4 ⟨rfl, hb4⟩; rw [HS.out]; have hb := Lib.hid (below_trans (by first | exact hb.out | exact hb) hb4); clear hb4) | (go_at_call 26; refine (rdI_any _ _ hsm).mono ?_; rintro e w' ⟨rfl, rfl⟩; rw [HR.out]))
        go_ret
        exact ⟨rfl, hb.out⟩

/-! ### THE ROW's STEP: WRITTEN OUT: LEAVE IT -/
set_option maxRecDepth 100000 in
theorem lifted (os : Os) (started : os.Started) (H : Type) (enc : TypeId × Value → H) :
    ReturnsInHanded {} Try.checked os 6 .any (Rows.fnDateTextSpec.pre6 enc Try.prog Try.f6 Rows.fnDateTextRow.domain false) (Rows.fnDateTextSpec.post enc Try.prog Try.f6 false true false false) := by
  refine returnsInHanded_of_change (C := Try.checked) own started (by kernel_rfl) Try.func6
    (ChangeSpec.witness6 (enc := enc) (C := Try.checked) false ⟨#[], #[.slice none 0 0], []⟩ 8 (by kernel_rfl) (by kernel_rfl) (by kernel_rfl) (by kernel_rfl)) ?_
  intro W base args ds gs before hval0 hW hcnd _
  have hval : ∀ (j : Nat) t v, Try.f6.params[j]? = some t → args[j]? = some v → Value.okWide Try.prog W .any base t v := hval0
  have hW' := hW
  obtain ⟨p, q, hA0, hV, rfl, hfz, hnd⟩ := hW
  have hA : DataW.TrodAll enc Try.prog W 0 (fun _ => true) true Try.f6.params.toList args.toList ds p := hA0
  rw [Try.params6] at hA hval
  obtain ⟨v0, vs0, d0, ds0, p0, q0, hargs, rfl, rfl, h0, r0⟩ := trodAll_cons hA
  obtain ⟨rfl, rfl, rfl⟩ := trodAll_nil r0
  obtain rfl : args = #[v0] := by cases args; simp_all
  obtain ⟨rfl, rfl⟩ := trodVars_none hV
  obtain ⟨a0, len0, cap0, rfl⟩ := okWide_slice Try.underlying22 (hval 0 22 v0 rfl rfl)
  have k0 := h0
  have lt0 : ∀ x ∈ p0, x.block < W.heap.size := by obtain ⟨m, hm⟩ := k0; exact DataW.trod_lt m _ _ _ hm
  obtain ⟨z0, w0⟩ : ∃ zs, IsRow .u8 W a0 len0 cap0 zs := by
    obtain ⟨fuel, hf⟩ := h0
    rcases open_ints Try.underlying22 Try.underlying5 (by kernel_rfl) hf with ⟨hcs, _⟩ | ⟨x, l, c, zs, hcs, _, hl, hm, hz, _, hcell, hwz⟩
    · simp [Value.cells] at hcs
      obtain ⟨rfl, rfl, rfl⟩ := hcs
      exact ⟨[], .inl ⟨rfl, rfl, rfl, rfl⟩⟩
    · simp [Value.cells] at hcs
      obtain ⟨rfl, rfl, rfl⟩ := hcs
      exact ⟨zs, .inr ⟨_, rfl, hl, hm, by simpa using hz, hcell, hwz⟩⟩
  clear hA0 hval0
  refine (walk a0 len0 cap0 z0 W w0).mono fun e W' ⟨he, bel⟩ => ?_
  subst he
  exact ⟨_, rfl, _, _, _, [], _, [], hW', trodAll_mk1 (shut_bool Try.underlying4 _), (trodAll_cons_mk (Below.trod laidOut (by kernel_rfl) (of_decide_eq_true (by kernel_rfl)) k0 bel lt0) trodAll_mk0), rfl, bel.frame _, fun h => by cases h⟩

theorem over : Rows.fnDateTextRow.holds Try.pinned (OpenSpec.ofChange Rows.fnDateTextSpec) :=
  OpenClaim.holds_of_wide 6 Try.f6 rfl rfl rfl rfl rfl rfl rfl ⟨rfl, rfl, rfl, rfl, rfl⟩ rfl rfl rfl rfl rfl (by kernel_rfl) Try.func6 (by kernel_rfl)
    (of_decide_eq_true (by kernel_rfl)) (by unfold Func.isWrapper; first | (rw [if_pos (by decide +kernel)]; kernel_rfl) | (rw [if_neg (by decide +kernel)]; exact ⟨rfl, rfl⟩))
    (fun os started H enc _ => lifted os started H enc)

/-- ████ THE STATEMENT ████ -/
theorem proved : Rows.FnDateTextSaid := over
#print axioms proved
end Go.Proofs.Ytmlmedmopbhdjaa.fnDateText
