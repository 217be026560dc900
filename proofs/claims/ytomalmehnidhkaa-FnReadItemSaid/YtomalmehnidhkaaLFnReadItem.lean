/-
  'FnReadItem' answers true at every input, and each argument reads behind the call as before. Conditions: none.
  The frame is the kit's shell (proof-skeleton.mjs); the walk is the verifier's.
-/
import Derived.Test.YtomalmehnidhkaaRows
import Derived.Test.YtomalmehnidhkaaGn
import Derived.Test.YtomalmehnidhkaaGo
import Derived.Test.YtomalmehnidhkaaGp
import Derived.Test.YtomalmehnidhkaaGs
import Derived.Test.YtomalmehnidhkaaGc
import Derived.Lib.Hide
import Derived.Outline
import Derived.BigQuiet
import Derived.Deep.QuietTactic
import Derived.Deep.Draws
import Derived.Laws.OwnMore
import Derived.Laws.Rows
import Derived.WalkSpells
import Derived.Deep.RegionWith
import Derived.WalkKit
import Derived.ProofKit
import Derived.OpenShut
import Derived.ShutString
import Derived.ChangeOld
import Derived.Below
namespace Go.Proofs.Ytomalmehnidhkaa.fnReadItem
open Go.ChangeShapes Go.WideShapes Go.ChangeAt Go.RowKit
open Go.ChangeMaps (open_string shut_string)
set_option linter.unusedVariables false

theorem own : ownKnob Try.prog.godebug = none := by kernel_rfl
theorem laidOut : laidOutB Try.prog = true := by kernel_rfl

/-- WHAT THE WALK IS TOLD OF A SLICE OF INTEGERS THAT CAME IN: it is nil; or it leads to a row of 'cap' cells, the numbers 'zs' (the first 'len' are its elements, the rest its spare room), each fitting its kind. -/
def IsRow (k : IntKind) (w : World) (a : Option Addr) (len cap : Nat) (zs : List Int) : Prop :=
  (a = none ∧ len = 0 ∧ cap = 0 ∧ zs = []) ∨
  ∃ x, a = some x ∧ len ≤ cap ∧ cap ≤ maxLen ∧ zs.length = cap ∧ (∀ i, i < zs.length → w.cell? (x.add i) = some (.int k (zs.getD i 0))) ∧ ∀ n ∈ zs, (Lit.int k n).wf = true

/-! ### STEP 1: THE WALK: the Go text returns true, AND WRITES NOTHING THAT WAS THERE: 'Below w.heap.size w w'' (Derived/Below.lean: '.refl', '.alloc', '.drew', '.setCell' at a new block, '.trans'). Open each 'IsRow' by 'rcases' AHEAD of 'go_enter'; part every test ahead of the walk. -/
set_option maxRecDepth 100000 in
set_option maxHeartbeats 4000000 in
theorem walk (a0 : Option Addr) (len0 cap0 : Nat) (z0 : List Int) (w : World) (w0 : IsRow .u8 w a0 len0 cap0 z0) :
    Calls Try.prog 5 #[.slice a0 len0 cap0] w fun e w' => e = .returned (.bool true) ∧ Below w.heap.size w w' := by
  have hcode := codeArg_of w0
  have hcap := hcode.1
  have hcap2 := hcode.2.1
  unfold maxLen at hcap2
  clear w0
  by_cases hbig : 1048576 < len0
  · go_enter Try.func5, Try.ntmps5
    go_wp2
    go_ret
    exact ⟨rfl, Below.refl _ _⟩
  · go_enter Try.func5, Try.ntmps5
    go_wp2_with fail
    refine (drawIR_any w a0 len0 cap0 hcode).mono ?_
    rintro e w2 ⟨s, hs, rfl, hb2⟩
    have hb2 := Lib.hid hb2
    have hs2 : s.size ≤ 90000000 := by omega
    go_wp2_with fail
    refine (rdI_item s _ hs2).mono ?_
    rintro e w3 ⟨L, ok, k, t, b, d, z, hR, hI, rfl, hb3⟩
    have HR := Lib.hid hR
    have HI := Lib.hid hI
    have hb3 := Lib.hid (below_trans' hb2.out hb3)
    obtain ⟨w4, hw4⟩ : ∃ w4, w3.alloc (.cells #[.string k, .string t, .string b, .int .i64 d] 24) = w4 := ⟨_, rfl⟩
    have hb4 : Below w.heap.size w w4 := by rw [← hw4]; exact hb3.out.alloc hb3.out.size _
    have hb4 := Lib.hid hb4
    clear hR hI
    go_wp2_with fail
    have hw4 := Lib.hid hw4
    refine (rdS_item s _ hs2).mono ?_
    rintro e w5 ⟨L5, ok5, k5, t5, b5, d5, z5, hR5, hI5, rfl, hb5⟩
    obtain ⟨rfl, rfl⟩ := rdE_one hR5 HR.out
    have he := hI5.symm.trans HI.out
    obtain ⟨⟨rfl, rfl, rfl, rfl⟩, rfl⟩ : (k5 = k ∧ t5 = t ∧ b5 = b ∧ d5 = d) ∧ z5 = z := by simpa using he
    obtain ⟨w6, hw6⟩ : ∃ w6, w5.alloc (.cells #[.string k5, .string t5, .string b5, .int .i64 d5] 24) = w6 := ⟨_, rfl⟩
    have hb56 : Below w5.heap.size w5 w6 := by rw [← hw6]; exact (Below.refl _ _).alloc (Nat.le_refl _) _
    have hk6 := Lib.hid (below_trans' hb5 hb56)
    have hb6 := Lib.hid (below_trans' hb4.out hk6.out)
    obtain ⟨r0, r1, r2, r3⟩ := row4 hw4.out hk6.out
    obtain ⟨x0, x1, x2, x3⟩ := row4 hw6 (Below.refl _ _)
    have q1 := str_same (a := k5) (b := k5) rfl
    have q2 := str_same (a := t5) (b := t5) rfl
    have q3 := str_same (a := b5) (b := b5) rfl
    have q4 : (d5 == d5) = true := by simp
    clear hR5 hI5 he hb5 hb56
    rcases z5 with _ | _
    · have hz := itR_zero HI.out
      unfold It.zero at hz
      obtain ⟨rfl, rfl, rfl, rfl⟩ : k5 = ⟨#[]⟩ ∧ t5 = ⟨#[]⟩ ∧ b5 = ⟨#[]⟩ ∧ d5 = 0 := by simpa using hz
      clear hz
      have z : (⟨#[]⟩ : ByteArray).toList = [] := str_nil rfl
      clear q1 q2 q3 q4
      subst hw6
      go_wp2_with (go_at_call 12; refine (alive_any _).mono ?_; rintro e w' ⟨rfl, rfl⟩)
      go_ret
      exact ⟨rfl, hb6.out⟩
    · obtain ⟨hiB, _⟩ := itR_ok HI.out
      have hokk : ok5 = true := by
        rcases HR.out with ⟨h, _⟩ | ⟨_, h, _⟩
        · exact h
        · have h2 := HI.out; rw [h, itR_nil] at h2; cases h2
      subst hokk
      have hfi := fitI_of hiB
      have HV := Lib.hid hiB
      have HT := Lib.hid (rdE_itE hiB)
      have HE := Lib.hid (itR_itE hiB)
      have hm2 : Hid ((itR L5).2 = true) := Lib.hid (by rw [HI.out])
      have hsz : (bs (itT ⟨k5, t5, b5, d5⟩)).size ≤ 90000000 := by rw [bs_size]; have := itT_len ⟨k5, t5, b5, d5⟩; omega
      have zk : (⟨#[60, 107, 101, 121, 62, 107, 60, 47, 107, 101, 121, 62]⟩ : ByteArray).size = 12 := rfl
      have sk : s.size + (⟨#[60, 107, 101, 121, 62, 107, 60, 47, 107, 101, 121, 62]⟩ : ByteArray).size ≤ 9223372036854775807 := by omega
      have hsk : (s ++ ⟨#[60, 107, 101, 121, 62, 107, 60, 47, 107, 101, 121, 62]⟩ : ByteArray).size ≤ 90000000 := by rw [ByteArray.size_append]; omega
      have HA : Hid ((s ++ ⟨#[60, 107, 101, 121, 62, 107, 60, 47, 107, 101, 121, 62]⟩ : ByteArray).data.toList = s.data.toList ++ keyK) := Lib.hid (by simp [keyK])
      clear hiB zk
      go_wp2_with fail
      have hw6 := Lib.hid hw6
      refine (itI_text k5 t5 b5 d5 _ hfi).mono ?_
      rintro e w7 ⟨rfl, hb7⟩
      obtain ⟨s8, hs8⟩ : ∃ s8, bs (itT ⟨k5, t5, b5, d5⟩) = s8 := ⟨_, rfl⟩
      have HD8 : Hid (s8.data.toList = itT ⟨k5, t5, b5, d5⟩) := Lib.hid (by rw [← hs8]; exact bs_data _)
      rw [hs8] at hsz ⊢
      clear hs8
      have hk7 := Lib.hid (below_trans' hk6.out hb7)
      clear hb7 r0 r1 r2 r3 x0 x1 x2 x3
      go_wp2_with fail
      refine (rdI_item _ _ hsz).mono ?_
      rintro e w8 ⟨L8, ok8, k8, t8, b8, d8, z8, hR8, hI8, rfl, hb8⟩
      rw [HD8.out] at hR8
      obtain ⟨rfl, rfl⟩ := rdE_one hR8 HT.out
      have he := hI8.symm.trans HE.out
      obtain ⟨⟨rfl, rfl, rfl, rfl⟩, rfl⟩ : (k8 = k5 ∧ t8 = t5 ∧ b8 = b5 ∧ d8 = d5) ∧ z8 = true := by simpa using he
      have hk8 := Lib.hid (below_trans' hk7.out hb8)
      obtain ⟨w9, hw9⟩ : ∃ w9, w8.alloc (.cells #[.string k8, .string t8, .string b8, .int .i64 d8] 24) = w9 := ⟨_, rfl⟩
      have hk9 : Below w4.heap.size w4 w9 := by rw [← hw9]; exact hk8.out.alloc hk8.out.size _
      have hk9 := Lib.hid hk9
      clear hR8 hI8 he hb8
      go_wp2_with fail
      have hw9 := Lib.hid hw9
      refine (rdI_item _ _ hsk).mono ?_
      rintro e w10 ⟨L10, ok10, k10, t10, b10, d10, z10, hR10, hI10, rfl, hb10⟩
      rw [HA.out] at hR10
      have hz := (itR_more HR.out hm2.out hR10).symm.trans hI10
      unfold It.zero at hz
      obtain ⟨⟨rfl, rfl, rfl, rfl⟩, rfl⟩ : (⟨#[]⟩ = k10 ∧ ⟨#[]⟩ = t10 ∧ ⟨#[]⟩ = b10 ∧ 0 = d10) ∧ false = z10 := by simpa using hz
      have hk910 := Lib.hid hb10
      have hk10 := Lib.hid (below_trans' hk9.out hb10)
      have h1011 : Below w10.heap.size w10 (w10.alloc (.cells #[.string ⟨#[]⟩, .string ⟨#[]⟩, .string ⟨#[]⟩, .int .i64 0] 24)) := (Below.refl _ _).alloc (Nat.le_refl _) _
      have hk11 := Lib.hid (below_trans' hk10.out h1011)
      have hk911 := Lib.hid (below_trans' hk910.out h1011)
      obtain ⟨r0, r1, r2, r3⟩ := row4 hw4.out hk11.out
      clear hR10 hI10 hz hb10 h1011
      go_wp2_with fail
      refine (itI_valid k8 t8 b8 d8 _ hfi).mono ?_
      rintro e w12 ⟨rfl, hb12⟩
      rw [HV.out]
      have hk12 := Lib.hid (below_trans' hk11.out hb12)
      have hk912 := Lib.hid (below_trans' hk911.out hb12)
      clear r0 r1 r2 r3 hb12
      obtain ⟨r0, r1, r2, r3⟩ := row4 hw4.out hk12.out
      obtain ⟨y0, y1, y2, y3⟩ := row4 hw9.out hk912.out
      go_wp2
      go_ret
      exact ⟨rfl, below_trans' hb4.out hk12.out⟩

/-! ### THE ROW's STEP: WRITTEN OUT: LEAVE IT -/
set_option maxRecDepth 100000 in
theorem lifted (os : Os) (started : os.Started) (H : Type) (enc : TypeId × Value → H) :
    ReturnsInHanded {} Try.checked os 5 .any (Rows.fnReadItemSpec.pre6 enc Try.prog Try.f5 Rows.fnReadItemRow.domain false) (Rows.fnReadItemSpec.post enc Try.prog Try.f5 false true false false) := by
  refine returnsInHanded_of_change (C := Try.checked) own started (by kernel_rfl) Try.func5
    (ChangeSpec.witness6 (enc := enc) (C := Try.checked) false ⟨#[], #[.slice none 0 0], []⟩ 8 (by kernel_rfl) (by kernel_rfl) (by kernel_rfl) (by kernel_rfl)) ?_
  intro W base args ds gs before hval0 hW hcnd _
  have hval : ∀ (j : Nat) t v, Try.f5.params[j]? = some t → args[j]? = some v → Value.okWide Try.prog W .any base t v := hval0
  have hW' := hW
  obtain ⟨p, q, hA0, hV, rfl, hfz, hnd⟩ := hW
  have hA : DataW.TrodAll enc Try.prog W 0 (fun _ => true) true Try.f5.params.toList args.toList ds p := hA0
  rw [Try.params5] at hA hval
  obtain ⟨v0, vs0, d0, ds0, p0, q0, hargs, rfl, rfl, h0, r0⟩ := trodAll_cons hA
  obtain ⟨rfl, rfl, rfl⟩ := trodAll_nil r0
  obtain rfl : args = #[v0] := by cases args; simp_all
  obtain ⟨rfl, rfl⟩ := trodVars_none hV
  obtain ⟨a0, len0, cap0, rfl⟩ := okWide_slice Try.underlying22 (hval 0 22 v0 rfl rfl)
  have k0 := h0
  have lt0 : ∀ x ∈ p0, x.block < W.heap.size := by obtain ⟨m, hm⟩ := k0; exact DataW.trod_lt m _ _ _ hm
  obtain ⟨z0, w0⟩ : ∃ zs, IsRow .u8 W a0 len0 cap0 zs := by
    obtain ⟨fuel, hf⟩ := h0
    rcases open_ints Try.underlying22 Try.underlying5 (by kernel_rfl) hf with ⟨hcs, _⟩ | ⟨x, l, c, zs, hcs, _, hl, hm, hz, _, hcell, hwz⟩
    · simp [Value.cells] at hcs
      obtain ⟨rfl, rfl, rfl⟩ := hcs
      exact ⟨[], .inl ⟨rfl, rfl, rfl, rfl⟩⟩
    · simp [Value.cells] at hcs
      obtain ⟨rfl, rfl, rfl⟩ := hcs
      exact ⟨zs, .inr ⟨_, rfl, hl, hm, by simpa using hz, hcell, hwz⟩⟩
  clear hA0 hval0
  refine (walk a0 len0 cap0 z0 W w0).mono fun e W' ⟨he, bel⟩ => ?_
  subst he
  exact ⟨_, rfl, _, _, _, [], _, [], hW', trodAll_mk1 (shut_bool Try.underlying4 _), (trodAll_cons_mk (Below.trod laidOut (by kernel_rfl) (of_decide_eq_true (by kernel_rfl)) k0 bel lt0) trodAll_mk0), rfl, bel.frame _, fun h => by cases h⟩

theorem over : Rows.fnReadItemRow.holds Try.pinned (OpenSpec.ofChange Rows.fnReadItemSpec) :=
  OpenClaim.holds_of_wide 5 Try.f5 rfl rfl rfl rfl rfl rfl rfl ⟨rfl, rfl, rfl, rfl, rfl⟩ rfl rfl rfl rfl rfl (by kernel_rfl) Try.func5 (by kernel_rfl)
    (of_decide_eq_true (by kernel_rfl)) (by unfold Func.isWrapper; first | (rw [if_pos (by decide +kernel)]; kernel_rfl) | (rw [if_neg (by decide +kernel)]; exact ⟨rfl, rfl⟩))
    (fun os started H enc _ => lifted os started H enc)

/-- ████ THE STATEMENT ████ -/
theorem proved : Rows.FnReadItemSaid := over
#print axioms proved
end Go.Proofs.Ytomalmehnidhkaa.fnReadItem
