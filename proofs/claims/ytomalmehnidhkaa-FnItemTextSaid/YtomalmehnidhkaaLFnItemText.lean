/-
  'FnItemText' answers true at every input, and each argument reads behind the call as before. Conditions: none.
  The frame is the kit's shell (proof-skeleton.mjs); the walk is the verifier's.
-/
import Derived.Test.YtomalmehnidhkaaRows
import Derived.Test.YtomalmehnidhkaaGn
import Derived.Test.YtomalmehnidhkaaGo
import Derived.Test.YtomalmehnidhkaaGp
import Derived.Test.YtomalmehnidhkaaGs
import Derived.Test.YtomalmehnidhkaaGc
import Derived.Lib.Hide
import Derived.Outline
import Derived.BigQuiet
import Derived.Deep.QuietTactic
import Derived.Deep.Draws
import Derived.Laws.OwnMore
import Derived.Laws.Rows
import Derived.WalkSpells
import Derived.Deep.RegionWith
import Derived.WalkKit
import Derived.ProofKit
import Derived.OpenShut
import Derived.ShutString
import Derived.ChangeOld
import Derived.Below
namespace Go.Proofs.Ytomalmehnidhkaa.fnItemText
open Go.ChangeShapes Go.WideShapes Go.ChangeAt Go.RowKit
open Go.ChangeMaps (open_string shut_string)
set_option linter.unusedVariables false

theorem own : ownKnob Try.prog.godebug = none := by kernel_rfl
theorem laidOut : laidOutB Try.prog = true := by kernel_rfl

/-- WHAT THE WALK IS TOLD OF A SLICE OF INTEGERS THAT CAME IN: it is nil; or it leads to a row of 'cap' cells, the numbers 'zs' (the first 'len' are its elements, the rest its spare room), each fitting its kind. -/
def IsRow (k : IntKind) (w : World) (a : Option Addr) (len cap : Nat) (zs : List Int) : Prop :=
  (a = none ∧ len = 0 ∧ cap = 0 ∧ zs = []) ∨
  ∃ x, a = some x ∧ len ≤ cap ∧ cap ≤ maxLen ∧ zs.length = cap ∧ (∀ i, i < zs.length → w.cell? (x.add i) = some (.int k (zs.getD i 0))) ∧ ∀ n ∈ zs, (Lit.int k n).wf = true

/-! ### STEP 1: THE WALK: the Go text returns true, AND WRITES NOTHING THAT WAS THERE: 'Below w.heap.size w w'' (Derived/Below.lean: '.refl', '.alloc', '.drew', '.setCell' at a new block, '.trans'). Open each 'IsRow' by 'rcases' AHEAD of 'go_enter'; part every test ahead of the walk. -/
set_option maxRecDepth 100000 in
set_option maxHeartbeats 4000000 in
theorem walk (a0 : Option Addr) (len0 cap0 : Nat) (z0 : List Int) (w : World) (w0 : IsRow .u8 w a0 len0 cap0 z0) :
    Calls Try.prog 4 #[.slice a0 len0 cap0] w fun e w' => e = .returned (.bool true) ∧ Below w.heap.size w w' := by
  have hcode := codeArg_of w0
  have hcap := hcode.1
  have hcap2 := hcode.2.1
  unfold maxLen at hcap2
  clear w0
  by_cases hbig : 1048576 < len0
  · go_enter Try.func4, Try.ntmps4
    go_wp2
    go_ret
    exact ⟨rfl, Below.refl _ _⟩
  · go_enter Try.func4, Try.ntmps4
    go_wp2_with fail
    refine (drawIT_any w a0 len0 cap0 hcode).mono ?_
    rintro e w2 ⟨k, t, b, d, rfl, hsh, hb2⟩
    obtain ⟨s1, s2, s3⟩ := hsh
    simp only at s1 s2 s3
    have hfi : FitI ⟨k, t, b, d⟩ := ⟨by show k.size ≤ _; omega, by show t.size ≤ _; omega, by show b.size ≤ _; omega⟩
    obtain ⟨w3, hw3⟩ : ∃ w3, w2.alloc (.cells #[.string k, .string t, .string b, .int .i64 d] 24) = w3 := ⟨_, rfl⟩
    have hb3 : Below w.heap.size w w3 := by rw [← hw3]; exact hb2.alloc hb2.size _
    obtain ⟨r0, r1, r2, r3⟩ := row4 hw3 (Below.refl _ _)
    have hb3 := Lib.hid hb3
    clear hb2 s1 s2 s3
    have hsz : (bs (itT ⟨k, t, b, d⟩)).size ≤ 4008 := by rw [bs_size]; exact itT_len _
    have hdat : (bs (itT ⟨k, t, b, d⟩)).data.toList = itT ⟨k, t, b, d⟩ := bs_data _
    obtain ⟨s, hs⟩ : ∃ s, bs (itT ⟨k, t, b, d⟩) = s := ⟨_, rfl⟩
    have HS := Lib.hid hs
    rw [hs] at hsz hdat
    have HD := Lib.hid hdat
    have q0 := str_same (a := s) (b := s) rfl
    clear hs hdat
    go_wp2_with fail
    have hw3 := Lib.hid hw3
    refine (itI_text k t b d _ hfi).mono ?_
    rintro e w4 ⟨rfl, hb4⟩
    rw [HS.out]
    have hk4 := Lib.hid hb4
    clear r0 r1 r2 r3 hb4
    obtain ⟨r0, r1, r2, r3⟩ := row4 hw3.out hk4.out
    go_wp2_with fail
    refine (itS_text k t b d _ hfi).mono ?_
    rintro e w5 ⟨rfl, hb5⟩
    rw [HS.out]
    have hk5 := Lib.hid (below_trans' hk4.out hb5)
    clear r0 r1 r2 r3 hb5
    obtain ⟨r0, r1, r2, r3⟩ := row4 hw3.out hk5.out
    go_wp2_with fail
    refine (itS_valid k t b d _ hfi).mono ?_
    rintro e w6 ⟨rfl, hb6⟩
    have hk6 := Lib.hid (below_trans' hk5.out hb6)
    clear r0 r1 r2 r3 hb6
    rcases hi : itB ⟨k, t, b, d⟩ with _ | _
    · have z : s.toList = [] := by rw [← HS.out, itT_out hi]; exact str_nil rfl
      clear hi
      go_wp2_with (go_at_call 12; refine (alive_any _).mono ?_; rintro e w' ⟨rfl, rfl⟩)
      go_ret
      exact ⟨rfl, below_trans' hb3.out hk6.out⟩
    · have HR := Lib.hid (rdE_itE hi)
      have HO := Lib.hid (rdE_itO hi)
      have HI := Lib.hid (itR_itE hi)
      have HJ := Lib.hid (itR_itO (i := ⟨k, t, b, d⟩) ⟨#[120]⟩ hi)
      have hs9 : s.size ≤ 90000000 := by omega
      have zo : (⟨#[60, 111, 116, 104, 101, 114, 62, 120, 60, 47, 111, 116, 104, 101, 114, 62]⟩ : ByteArray).size = 16 := rfl
      have so : (⟨#[60, 111, 116, 104, 101, 114, 62, 120, 60, 47, 111, 116, 104, 101, 114, 62]⟩ : ByteArray).size + s.size ≤ 9223372036854775807 := by omega
      have hso : (⟨#[60, 111, 116, 104, 101, 114, 62, 120, 60, 47, 111, 116, 104, 101, 114, 62]⟩ ++ s : ByteArray).size ≤ 90000000 := by rw [ByteArray.size_append]; omega
      have HA : Hid ((⟨#[60, 111, 116, 104, 101, 114, 62, 120, 60, 47, 111, 116, 104, 101, 114, 62]⟩ ++ s : ByteArray).data.toList = othX ++ itT ⟨k, t, b, d⟩) := Lib.hid (by rw [← HD.out]; simp [othX])
      clear hi zo
      go_wp2_with fail
      refine (rdI_item s _ hs9).mono ?_
      rintro e w7 ⟨L7, ok7, k7, t7, b7, d7, z7, hR7, hI7, rfl, hb7⟩
      rw [HD.out] at hR7
      obtain ⟨rfl, rfl⟩ := rdE_one hR7 HR.out
      have he := hI7.symm.trans HI.out
      obtain ⟨⟨rfl, rfl, rfl, rfl⟩, rfl⟩ : (k7 = k ∧ t7 = t ∧ b7 = b ∧ d7 = d) ∧ z7 = true := by simpa using he
      have hk7 := Lib.hid (below_trans' hk6.out hb7)
      clear hR7 hI7 he hb7
      obtain ⟨w8, hw8⟩ : ∃ w8, w7.alloc (.cells #[.string k7, .string t7, .string b7, .int .i64 d7] 24) = w8 := ⟨_, rfl⟩
      have hk8 : Below w3.heap.size w3 w8 := by rw [← hw8]; exact hk7.out.alloc hk7.out.size _
      have hk8 := Lib.hid hk8
      go_wp2_with fail
      have hw8 := Lib.hid hw8
      refine (rdI_item _ _ hso).mono ?_
      rintro e w9 ⟨L9, ok9, k9, t9, b9, d9, z9, hR9, hI9, rfl, hb9⟩
      rw [HA.out] at hR9
      obtain ⟨rfl, rfl⟩ := rdE_one hR9 HO.out
      have he := hI9.symm.trans HJ.out
      obtain ⟨⟨rfl, rfl, rfl, rfl⟩, rfl⟩ : (k9 = k7 ∧ t9 = t7 ∧ b9 = b7 ∧ d9 = d7) ∧ z9 = true := by simpa using he
      have hk9 := Lib.hid (below_trans' hk8.out hb9)
      obtain ⟨w10, hw10⟩ : ∃ w10, w9.alloc (.cells #[.string k9, .string t9, .string b9, .int .i64 d9] 24) = w10 := ⟨_, rfl⟩
      have hb910 : Below w9.heap.size w9 w10 := by rw [← hw10]; exact (Below.refl _ _).alloc (Nat.le_refl _) _
      have hb810 := Lib.hid (below_trans' hb9 hb910)
      have hk10 := Lib.hid (below_trans' hk9.out hb910)
      obtain ⟨r0, r1, r2, r3⟩ := row4 hw3.out hk10.out
      obtain ⟨x0, x1, x2, x3⟩ := row4 hw8.out hb810.out
      obtain ⟨y0, y1, y2, y3⟩ := row4 hw10 (Below.refl _ _)
      have q1 := str_same (a := k9) (b := k9) rfl
      have q2 := str_same (a := t9) (b := t9) rfl
      have q3 := str_same (a := b9) (b := b9) rfl
      clear hR9 hI9 he hb9 hb910
      go_wp2
      go_ret
      exact ⟨rfl, below_trans' hb3.out hk10.out⟩

/-! ### THE ROW's STEP: WRITTEN OUT: LEAVE IT -/
set_option maxRecDepth 100000 in
theorem lifted (os : Os) (started : os.Started) (H : Type) (enc : TypeId × Value → H) :
    ReturnsInHanded {} Try.checked os 4 .any (Rows.fnItemTextSpec.pre6 enc Try.prog Try.f4 Rows.fnItemTextRow.domain false) (Rows.fnItemTextSpec.post enc Try.prog Try.f4 false true false false) := by
  refine returnsInHanded_of_change (C := Try.checked) own started (by kernel_rfl) Try.func4
    (ChangeSpec.witness6 (enc := enc) (C := Try.checked) false ⟨#[], #[.slice none 0 0], []⟩ 8 (by kernel_rfl) (by kernel_rfl) (by kernel_rfl) (by kernel_rfl)) ?_
  intro W base args ds gs before hval0 hW hcnd _
  have hval : ∀ (j : Nat) t v, Try.f4.params[j]? = some t → args[j]? = some v → Value.okWide Try.prog W .any base t v := hval0
  have hW' := hW
  obtain ⟨p, q, hA0, hV, rfl, hfz, hnd⟩ := hW
  have hA : DataW.TrodAll enc Try.prog W 0 (fun _ => true) true Try.f4.params.toList args.toList ds p := hA0
  rw [Try.params4] at hA hval
  obtain ⟨v0, vs0, d0, ds0, p0, q0, hargs, rfl, rfl, h0, r0⟩ := trodAll_cons hA
  obtain ⟨rfl, rfl, rfl⟩ := trodAll_nil r0
  obtain rfl : args = #[v0] := by cases args; simp_all
  obtain ⟨rfl, rfl⟩ := trodVars_none hV
  obtain ⟨a0, len0, cap0, rfl⟩ := okWide_slice Try.underlying22 (hval 0 22 v0 rfl rfl)
  have k0 := h0
  have lt0 : ∀ x ∈ p0, x.block < W.heap.size := by obtain ⟨m, hm⟩ := k0; exact DataW.trod_lt m _ _ _ hm
  obtain ⟨z0, w0⟩ : ∃ zs, IsRow .u8 W a0 len0 cap0 zs := by
    obtain ⟨fuel, hf⟩ := h0
    rcases open_ints Try.underlying22 Try.underlying5 (by kernel_rfl) hf with ⟨hcs, _⟩ | ⟨x, l, c, zs, hcs, _, hl, hm, hz, _, hcell, hwz⟩
    · simp [Value.cells] at hcs
      obtain ⟨rfl, rfl, rfl⟩ := hcs
      exact ⟨[], .inl ⟨rfl, rfl, rfl, rfl⟩⟩
    · simp [Value.cells] at hcs
      obtain ⟨rfl, rfl, rfl⟩ := hcs
      exact ⟨zs, .inr ⟨_, rfl, hl, hm, by simpa using hz, hcell, hwz⟩⟩
  clear hA0 hval0
  refine (walk a0 len0 cap0 z0 W w0).mono fun e W' ⟨he, bel⟩ => ?_
  subst he
  exact ⟨_, rfl, _, _, _, [], _, [], hW', trodAll_mk1 (shut_bool Try.underlying4 _), (trodAll_cons_mk (Below.trod laidOut (by kernel_rfl) (of_decide_eq_true (by kernel_rfl)) k0 bel lt0) trodAll_mk0), rfl, bel.frame _, fun h => by cases h⟩

theorem over : Rows.fnItemTextRow.holds Try.pinned (OpenSpec.ofChange Rows.fnItemTextSpec) :=
  OpenClaim.holds_of_wide 4 Try.f4 rfl rfl rfl rfl rfl rfl rfl ⟨rfl, rfl, rfl, rfl, rfl⟩ rfl rfl rfl rfl rfl (by kernel_rfl) Try.func4 (by kernel_rfl)
    (of_decide_eq_true (by kernel_rfl)) (by unfold Func.isWrapper; first | (rw [if_pos (by decide +kernel)]; kernel_rfl) | (rw [if_neg (by decide +kernel)]; exact ⟨rfl, rfl⟩))
    (fun os started H enc _ => lifted os started H enc)

/-- ████ THE STATEMENT ████ -/
theorem proved : Rows.FnItemTextSaid := over
#print axioms proved
end Go.Proofs.Ytomalmehnidhkaa.fnItemText
