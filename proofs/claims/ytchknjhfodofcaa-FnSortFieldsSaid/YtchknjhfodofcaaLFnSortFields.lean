/-
  'FnSortFields' answers true at every input, and each argument reads behind the call as before. Conditions: none.
  The frame is the kit's shell (proof-skeleton.mjs); the walk is the verifier's.
-/
import Derived.Test.YtchknjhfodofcaaRows
import Derived.Test.YtchknjhfodofcaaHO
import Derived.Test.YtchknjhfodofcaaHL
import Derived.Test.YtchknjhfodofcaaHJ
import Derived.Test.YtchknjhfodofcaaGc
import Derived.Lib.Hide
import Derived.Outline
import Derived.BigQuiet
import Derived.Deep.QuietTactic
import Derived.Deep.Draws
import Derived.Laws.OwnMore
import Derived.Laws.Rows
import Derived.WalkSpells
import Derived.Deep.RegionWith
import Derived.WalkKit
import Derived.ProofKit
import Derived.OpenShut
import Derived.ShutString
import Derived.ChangeOld
import Derived.Below
namespace Go.Proofs.Ytchknjhfodofcaa.fnSortFields
open Go.ChangeShapes Go.WideShapes Go.ChangeAt Go.RowKit
open Go.ChangeMaps (open_string shut_string)
set_option linter.unusedVariables false

theorem own : ownKnob Try.prog.godebug = none := by kernel_rfl
theorem laidOut : laidOutB Try.prog = true := by kernel_rfl

/-- WHAT THE WALK IS TOLD OF A SLICE OF INTEGERS THAT CAME IN: it is nil; or it leads to a row of 'cap' cells, the numbers 'zs' (the first 'len' are its elements, the rest its spare room), each fitting its kind. -/
def IsRow (k : IntKind) (w : World) (a : Option Addr) (len cap : Nat) (zs : List Int) : Prop :=
  (a = none ∧ len = 0 ∧ cap = 0 ∧ zs = []) ∨
  ∃ x, a = some x ∧ len ≤ cap ∧ cap ≤ maxLen ∧ zs.length = cap ∧ (∀ i, i < zs.length → w.cell? (x.add i) = some (.int k (zs.getD i 0))) ∧ ∀ n ∈ zs, (Lit.int k n).wf = true

/-! ### STEP 1: THE WALK: the Go text returns true, AND WRITES NOTHING THAT WAS THERE: 'Below w.heap.size w w'' (Derived/Below.lean: '.refl', '.alloc', '.drew', '.setCell' at a new block, '.trans'). Open each 'IsRow' by 'rcases' AHEAD of 'go_enter'; part every test ahead of the walk. -/
set_option maxRecDepth 100000 in
set_option maxHeartbeats 4000000 in
theorem walk (a0 : Option Addr) (len0 cap0 : Nat) (z0 : List Int) (w : World) (w0 : IsRow .u8 w a0 len0 cap0 z0) :
    Calls Try.prog 4 #[.slice a0 len0 cap0] w fun e w' => e = .returned (.bool true) ∧ Below w.heap.size w w' := by
  have hcode := codeArg_of w0
  have hcap := hcode.1
  have hcap2 := hcode.2.1
  unfold maxLen at hcap2
  clear w0
  by_cases hbig : 1048576 < len0
  · go_enter Try.func4, Try.ntmps4
    go_wp2
    go_ret
    exact ⟨rfl, Below.refl _ _⟩
  · go_enter Try.func4, Try.ntmps4
    go_wp2_with fail
    refine (drawFS_any w a0 len0 cap0 hcode).mono ?_
    rintro e w2 ⟨v, L, rfl, h7, hf, hown, hb2⟩
    have hrd2 := Lib.hid (OwnG.rd hown)
    have hb2 := Lib.hid hb2
    clear hown
    obtain ⟨S, hS⟩ : ∃ S, soF L = S := ⟨_, rfl⟩
    have HS := Lib.hid hS
    clear hS
    go_wp2_with fail
    refine (flI_sort v L _ hrd2.out hf).mono ?_
    rw [HS.out]
    rintro e w3 ⟨x, rfl, hx, hb3⟩
    have hrx3 := Lib.hid (OwnG.rd hx)
    have hrd3 := Lib.hid (hrd2.out.below hb3)
    have hb3 := Lib.hid (below_trans' hb2.out hb3)
    clear hx
    go_wp2_with fail
    refine (flS_sort v L _ hrd3.out hf).mono ?_
    rw [HS.out]
    rintro e w4 ⟨y, rfl, hy, hb4⟩
    have hry4 := Lib.hid (OwnG.rd hy)
    have hrx4 := Lib.hid (hrx3.out.below hb4)
    have hrd4 := Lib.hid (hrd3.out.below hb4)
    have hb4 := Lib.hid (below_trans' hb3.out hb4)
    clear hy
    go_wp2_with fail
    refine (sameFd_any x y S _ hrx4.out hry4.out).mono ?_
    rintro e w5 ⟨rfl, n5, rfl⟩
    obtain ⟨w5, hw5⟩ : ∃ w5, w4.drewN n5 = w5 := ⟨_, rfl⟩
    have hb45 : Below w4.heap.size w4 w5 := by rw [← hw5]; exact below_drewN w4 n5
    rw [hw5]
    have hrx5 := Lib.hid (hrx4.out.below hb45)
    have hrd5 := Lib.hid (hrd4.out.below hb45)
    have hb5 := Lib.hid (below_trans' hb4.out hb45)
    clear hw5 hb45
    go_wp2_with fail
    refine (flI_valid v L _ hrd5.out hf).mono ?_
    rintro e w6 ⟨rfl, hb6⟩
    have hrx6 := Lib.hid (hrx5.out.below hb6)
    have hrd6 := Lib.hid (hrd5.out.below hb6)
    have hb6 := Lib.hid (below_trans' hb5.out hb6)
    rcases hi : flsB L with _ | _
    · have hS0 : S = [] := by rw [← HS.out, soF_out hi]
      subst hS0
      clear hi
      obtain ⟨A, c, rfl, hc⟩ := hrx6.out.nil
      go_wp2_with (go_at_call 14; refine (alive_any _).mono ?_; rintro e w' ⟨rfl, rfl⟩)
      go_ret
      exact ⟨rfl, hb6.out⟩
    · have HI := Lib.hid hi
      have hSl : Hid (S.length = L.length) := Lib.hid (by rw [← HS.out]; exact soF_len hi)
      have hSa : Hid (ascB flL S = true) := Lib.hid (by rw [← HS.out]; exact soF_asc L)
      have hfS : FitFds S := by rw [← HS.out]; exact fitFd_of (soF_valid L)
      have hfR : FitFds L.reverse := fun a m => hf a (List.mem_reverse.1 m)
      have hR1 : Hid (soF L.reverse = S) := Lib.hid (by rw [soF_rev hi]; exact HS.out)
      have hR2 : Hid (soF S = S) := Lib.hid (by rw [← HS.out]; exact soF_twice L)
      obtain ⟨A, c, rfl, hc1, hc2, hor⟩ := hrd6.out
      have hc2' := Lib.hid hc2
      unfold maxLen at hc2
      have hown6 := Lib.hid (ownFd_none w6 w6.heap.size (Nat.le_refl _))
      have hk6 := Lib.hid ((Below.refl w6.heap.size w6).alloc (Nat.le_refl _) (.cells #[] 28))
      have iw := IntWalk.i64_in ((L.length : Int) - 1) (by omega)
      clear hi hor
      go_wp2
      go_loopw [5, 6] (fun t i wr => ∃ (j : Nat) (z : Int), j ≤ L.length ∧ i = .int .i64 z ∧ Hid (z = (j : Int) - 1) ∧ Hid (OwnFd wr w6.heap.size t (L.drop j).reverse) ∧ Hid (Below w6.heap.size w6 wr)) (fun _ i _ => (intOf i + 1).toNat)
      case atStart => exact ⟨L.length, _, Nat.le_refl _, rfl, Lib.hid rfl, Lib.hid (by rw [List.drop_eq_nil_of_le (Nat.le_refl _)]; exact hown6.out), hk6⟩
      case round =>
        obtain ⟨j, z, hj, rfl, hz, hown, hbr⟩ := hrel
        by_cases h0 : j = 0
        · subst h0
          obtain rfl : z = -1 := by have := hz.out; omega
          have hown := Lib.hid (show OwnFd _ w6.heap.size _ L.reverse from by have := hown.out; rwa [List.drop_zero] at this)
          have hrt := Lib.hid (OwnG.rd hown.out)
          have hrx7 := Lib.hid (hrx6.out.below hbr.out)
          obtain ⟨At, ct, ht⟩ := OwnFd.shape hown.out
          subst ht
          replace hrt := Lib.hid (show RdG encFd _ (.slice At L.length ct) L.reverse from by have := hrt.out; rwa [List.length_reverse] at this)
          obtain ⟨Ax, cx, rfl, hx1, hx2, hxo⟩ := hrx7.out
          have hx2' := Lib.hid hx2
          unfold maxLen at hx2
          go_wp2
          go_loopw [7] (fun i wx => ∃ k : Nat, 1 ≤ k ∧ (k = 1 ∨ k ≤ S.length) ∧ i = .int .i64 k ∧ Hid (Below _ _ wx)) (fun i _ => S.length - (intOf i).toNat)
          case atStart => exact ⟨1, Nat.le_refl _, .inl rfl, rfl, Lib.hid (Below.refl _ _)⟩
          case round =>
            obtain ⟨k, hk1, hk2, rfl, hbk⟩ := hrel
            by_cases hlt : k < S.length
            · obtain ⟨q, rfl⟩ : ∃ q, k = q + 1 := ⟨k - 1, by omega⟩
              obtain ⟨b, o, c', hv, _, _, hb, h4⟩ := hrx7.out.some (by intro e; rw [e] at hlt; simp at hlt)
              obtain ⟨rfl, rfl⟩ : Ax = some ⟨b, o, none⟩ ∧ cx = c' := by simpa using hv
              have hcs := Lib.hid (fun k (hk : k < S.length) => rdFd_cells h4 hk)
              obtain ⟨c0, c1⟩ := rdFd_at hcs.out hb hbk.out hlt
              obtain ⟨d0, d1⟩ := rdFd_at hcs.out hb hbk.out (k := q) (by omega)
              obtain ⟨q1, q2⟩ := fl_leq (asc_get hSa.out (j := q) (k := q + 1) (by omega) hlt)
              obtain ⟨ea, hea⟩ : ∃ e, S[q + 1] = e := ⟨_, rfl⟩
              obtain ⟨eb, heb⟩ : ∃ e, S[q]'(by omega) = e := ⟨_, rfl⟩
              rw [hea] at c0 c1 q1 q2
              rw [heb] at d0 d1 q1 q2
              obtain ⟨an, av⟩ := ea
              obtain ⟨bn, bv⟩ := eb
              simp only at c0 c1 d0 d1 q1 q2
              have iwq := IntWalk.i64_in (q : Int) (by omega)
              have g1 : (q : Int) < (S.length : Int) := by omega
              have g2 : (0 : Int) ≤ (q : Int) := by omega
              have g3 : ((q + 1 : Nat) : Int) < (S.length : Int) := by omega
              clear h4 hv hea heb
              go_wp2_with fail
              go_quiet (fail)
              go_wp2
              go_roundw
              case rel => exact ⟨q + 1 + 1, by omega, .inr (by omega), by go_num, Lib.hid (Below.drawn hbk.out _)⟩
              case measure => simp [intOf]; omega
            · have hd : decide ((k : Int) < (S.length : Int)) = false := decide_eq_false (by omega)
              have q0 : ((S.length : Int) == (L.length : Int)) = true := by rw [hSl.out]; simp
              have hrtk := Lib.hid (hrt.out.below hbk.out)
              have hrxk := Lib.hid (hrx7.out.below hbk.out)
              have hbK := Lib.hid (below_trans' (below_trans' hb6.out hbr.out) hbk.out)
              clear hk2
              go_wp2_with fail
              refine (flI_sort _ L.reverse _ hrtk.out hfR).mono ?_
              rw [hR1.out]
              rintro e w9 ⟨u9, rfl, hu9, hb9⟩
              have hru9 := Lib.hid (OwnG.rd hu9)
              have hrx9 := Lib.hid (hrxk.out.below hb9)
              have hb9 := Lib.hid (below_trans' hbK.out hb9)
              clear hu9
              go_wp2_with fail
              refine (sameFd_any u9 _ S _ hru9.out hrx9.out).mono ?_
              rintro e w10 ⟨rfl, n10, rfl⟩
              have hrx10 := Lib.hid (hrx9.out.below (below_drewN w9 n10))
              have hb10 := Lib.hid (Below.drawn hb9.out n10)
              go_wp2_with fail
              refine (flI_sort _ S _ hrx10.out hfS).mono ?_
              rw [hR2.out]
              rintro e w11 ⟨u11, rfl, hu11, hb11⟩
              have hru11 := Lib.hid (OwnG.rd hu11)
              have hrx11 := Lib.hid (hrx10.out.below hb11)
              have hb11 := Lib.hid (below_trans' hb10.out hb11)
              clear hu11
              go_wp2_with fail
              refine (sameFd_any u11 _ S _ hru11.out hrx11.out).mono ?_
              rintro e w12 ⟨rfl, n12, rfl⟩
              go_wp2
              go_ret
              exact ⟨rfl, Below.drawn hb11.out n12⟩
        · obtain ⟨q, rfl⟩ : ∃ q, j = q + 1 := ⟨j - 1, by omega⟩
          obtain rfl : z = (q : Int) := by have := hz.out; omega
          have hql : q < L.length := by omega
          obtain ⟨b, o, c', hv, _, _, hb, h4⟩ := hrd6.out.some (by intro e; rw [e] at hql; simp at hql)
          obtain ⟨rfl, rfl⟩ : A = some ⟨b, o, none⟩ ∧ c = c' := by simpa using hv
          have hcs := Lib.hid (fun k (hk : k < L.length) => rdFd_cells h4 hk)
          obtain ⟨c0, c1⟩ := rdFd_at hcs.out hb hbr.out hql
          have hrn := rev_next hql
          obtain ⟨ea, hea⟩ : ∃ e, L[q] = e := ⟨_, rfl⟩
          rw [hea] at c0 c1 hrn
          obtain ⟨an, av⟩ := ea
          simp only at c0 c1
          have hrn := Lib.hid hrn
          have hll : (L.drop (q + 1)).reverse.length ≤ 1073741824 := by rw [List.length_reverse, List.length_drop]; omega
          have g1 : (q : Int) < (L.length : Int) := by omega
          have g2 : (0 : Int) ≤ (q : Int) := by omega
          have iwq := IntWalk.i64_in ((q : Int) - 1) (by omega)
          obtain ⟨At, ct, ht⟩ := OwnFd.shape hown.out
          subst ht
          have hszr := hbr.out.size
          clear h4 hv hea
          go_wp2_with (at_builtin; refine appFd rfl (.tmp 37) (.tmp 42) rfl w6.heap.size _ (L.drop (q + 1)).reverse an av rfl hown.out hszr _ rfl rfl hll ?_; intro v10 w10 hown10 hg10; have hB10 : Hid (Below w6.heap.size w6 w10) := Lib.hid (own_below' hown.out hbr.out hg10); rw [hrn.out] at hown10; have hown10 := Lib.hid hown10; clear hg10)
          go_roundw
          case rel => exact ⟨q, _, by omega, rfl, Lib.hid (by first | rfl | omega), hown10, hB10⟩
          case measure => simp [intOf]

/-! ### THE ROW's STEP: WRITTEN OUT: LEAVE IT -/
set_option maxRecDepth 100000 in
theorem lifted (os : Os) (started : os.Started) (H : Type) (enc : TypeId × Value → H) :
    ReturnsInHanded {} Try.checked os 4 .any (Rows.fnSortFieldsSpec.pre6 enc Try.prog Try.f4 Rows.fnSortFieldsRow.domain false) (Rows.fnSortFieldsSpec.post enc Try.prog Try.f4 false true false false) := by
  refine returnsInHanded_of_change (C := Try.checked) own started (by kernel_rfl) Try.func4
    (ChangeSpec.witness6 (enc := enc) (C := Try.checked) false ⟨#[], #[.slice none 0 0], []⟩ 8 (by kernel_rfl) (by kernel_rfl) (by kernel_rfl) (by kernel_rfl)) ?_
  intro W base args ds gs before hval0 hW hcnd _
  have hval : ∀ (j : Nat) t v, Try.f4.params[j]? = some t → args[j]? = some v → Value.okWide Try.prog W .any base t v := hval0
  have hW' := hW
  obtain ⟨p, q, hA0, hV, rfl, hfz, hnd⟩ := hW
  have hA : DataW.TrodAll enc Try.prog W 0 (fun _ => true) true Try.f4.params.toList args.toList ds p := hA0
  rw [Try.params4] at hA hval
  obtain ⟨v0, vs0, d0, ds0, p0, q0, hargs, rfl, rfl, h0, r0⟩ := trodAll_cons hA
  obtain ⟨rfl, rfl, rfl⟩ := trodAll_nil r0
  obtain rfl : args = #[v0] := by cases args; simp_all
  obtain ⟨rfl, rfl⟩ := trodVars_none hV
  obtain ⟨a0, len0, cap0, rfl⟩ := okWide_slice Try.underlying22 (hval 0 22 v0 rfl rfl)
  have k0 := h0
  have lt0 : ∀ x ∈ p0, x.block < W.heap.size := by obtain ⟨m, hm⟩ := k0; exact DataW.trod_lt m _ _ _ hm
  obtain ⟨z0, w0⟩ : ∃ zs, IsRow .u8 W a0 len0 cap0 zs := by
    obtain ⟨fuel, hf⟩ := h0
    rcases open_ints Try.underlying22 Try.underlying5 (by kernel_rfl) hf with ⟨hcs, _⟩ | ⟨x, l, c, zs, hcs, _, hl, hm, hz, _, hcell, hwz⟩
    · simp [Value.cells] at hcs
      obtain ⟨rfl, rfl, rfl⟩ := hcs
      exact ⟨[], .inl ⟨rfl, rfl, rfl, rfl⟩⟩
    · simp [Value.cells] at hcs
      obtain ⟨rfl, rfl, rfl⟩ := hcs
      exact ⟨zs, .inr ⟨_, rfl, hl, hm, by simpa using hz, hcell, hwz⟩⟩
  clear hA0 hval0
  refine (walk a0 len0 cap0 z0 W w0).mono fun e W' ⟨he, bel⟩ => ?_
  subst he
  exact ⟨_, rfl, _, _, _, [], _, [], hW', trodAll_mk1 (shut_bool Try.underlying4 _), (trodAll_cons_mk (Below.trod laidOut (by kernel_rfl) (of_decide_eq_true (by kernel_rfl)) k0 bel lt0) trodAll_mk0), rfl, bel.frame _, fun h => by cases h⟩

theorem over : Rows.fnSortFieldsRow.holds Try.pinned (OpenSpec.ofChange Rows.fnSortFieldsSpec) :=
  OpenClaim.holds_of_wide 4 Try.f4 rfl rfl rfl rfl rfl rfl rfl ⟨rfl, rfl, rfl, rfl, rfl⟩ rfl rfl rfl rfl rfl (by kernel_rfl) Try.func4 (by kernel_rfl)
    (of_decide_eq_true (by kernel_rfl)) (by unfold Func.isWrapper; first | (rw [if_pos (by decide +kernel)]; kernel_rfl) | (rw [if_neg (by decide +kernel)]; exact ⟨rfl, rfl⟩))
    (fun os started H enc _ => lifted os started H enc)

/-- ████ THE STATEMENT ████ -/
theorem proved : Rows.FnSortFieldsSaid := over
#print axioms proved
end Go.Proofs.Ytchknjhfodofcaa.fnSortFields
