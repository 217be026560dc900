/-
  'FnAddActor' answers true at every input, and each argument reads behind the call as before. Conditions: none.
  The frame is the kit's shell (proof-skeleton.mjs); the walk is the verifier's.
-/
import Derived.Test.YtacapigdfabiiaaRows
import Derived.Test.YtacapigdfabiiaaActI
import Derived.Test.YtacapigdfabiiaaHE
import Derived.Test.YtacapigdfabiiaaGc
import Derived.Test.YtacapigdfabiiaaHC
import Derived.Deep.RegionHeld3
import Derived.Lib.Hide
import Derived.Outline
import Derived.BigQuiet
import Derived.Deep.QuietTactic
import Derived.Deep.Draws
import Derived.Laws.OwnMore
import Derived.Laws.Rows
import Derived.WalkSpells
import Derived.Deep.RegionWith
import Derived.WalkKit
import Derived.ProofKit
import Derived.OpenShut
import Derived.ShutString
import Derived.ChangeOld
import Derived.Below
namespace Go.Proofs.Ytacapigdfabiiaa.fnAddActor
open Go.ChangeShapes Go.WideShapes Go.ChangeAt Go.RowKit
open Go.ChangeMaps (open_string shut_string)
set_option linter.unusedVariables false

theorem own : ownKnob Try.prog.godebug = none := by kernel_rfl
theorem laidOut : laidOutB Try.prog = true := by kernel_rfl

/-- WHAT THE WALK IS TOLD OF A SLICE OF INTEGERS THAT CAME IN: it is nil; or it leads to a row of 'cap' cells, the numbers 'zs' (the first 'len' are its elements, the rest its spare room), each fitting its kind. -/
def IsRow (k : IntKind) (w : World) (a : Option Addr) (len cap : Nat) (zs : List Int) : Prop :=
  (a = none ∧ len = 0 ∧ cap = 0 ∧ zs = []) ∨
  ∃ x, a = some x ∧ len ≤ cap ∧ cap ≤ maxLen ∧ zs.length = cap ∧ (∀ i, i < zs.length → w.cell? (x.add i) = some (.int k (zs.getD i 0))) ∧ ∀ n ∈ zs, (Lit.int k n).wf = true

/-! ### STEP 1: THE WALK: the Go text returns true, AND WRITES NOTHING THAT WAS THERE: 'Below w.heap.size w w'' (Derived/Below.lean: '.refl', '.alloc', '.drew', '.setCell' at a new block, '.trans'). Open each 'IsRow' by 'rcases' AHEAD of 'go_enter'; part every test ahead of the walk. -/
set_option maxRecDepth 100000 in
set_option maxHeartbeats 4000000 in
theorem walk (a0 : Option Addr) (len0 cap0 : Nat) (z0 : List Int) (w : World) (w0 : IsRow .u8 w a0 len0 cap0 z0) :
    Calls Try.prog 7 #[.slice a0 len0 cap0] w fun e w' => e = .returned (.bool true) ∧ Below w.heap.size w w' := by
  have hcode := codeArg_of w0
  have hcap := hcode.1
  have hcap2 := hcode.2.1
  unfold maxLen at hcap2
  clear w0
  by_cases hbig : 1048576 < len0
  · go_enter Try.func7, Try.ntmps7
    go_wp2
    go_ret
    exact ⟨rfl, Below.refl _ _⟩
  · go_enter Try.func7, Try.ntmps7
    go_wp2_with fail
    refine (drawAA_any w a0 len0 cap0 hcode).mono ?_
    rintro e w2 ⟨v, L, z, rfl, h7, hsz, hsh, hown, hb2⟩
    obtain ⟨name, feed, sign⟩ := z
    simp only [aggAc]
    have hfit := fitAcs_sh hsh
    have hfa := fitAc_sh hsz
    obtain ⟨w3, hw3⟩ : ∃ w3, w2.alloc (.cells #[.string name, .string feed, .int .i64 sign] 33) = w3 := ⟨_, rfl⟩
    have hb23 : Below w2.heap.size w2 w3 := by rw [← hw3]; exact (Below.refl _ _).alloc (Nat.le_refl _) _
    have hrow := Lib.hid (fun wX (hX : Below w3.heap.size w3 wX) => row3 hw3 hX)
    have hrd3 := Lib.hid ((OwnG.rd hown).below hb23)
    have hb3 := Lib.hid (below_trans' hb2 hb23)
    obtain ⟨r0, r1, r2⟩ := hrow.out w3 (Below.refl _ _)
    clear hown hb2 hb23 hsh hsz
    have hP8 := adA_8 L ⟨name, feed, sign⟩
    go_wp2_with fail
    have hw3 := Lib.hid hw3
    refine (acI_add v L name feed sign _ hrd3.out hfit hfa).mono ?_
    rintro e w4 ⟨x, rfl, hx, hb4⟩
    have hrdx := Lib.hid (OwnG.rd hx)
    have hk4 := Lib.hid hb4
    have hrd4 := Lib.hid (hrd3.out.below hb4)
    have hxform := OwnG.form hx
    clear r0 r1 r2 hx
    obtain ⟨r0, r1, r2⟩ := hrow.out w4 hk4.out
    go_wp2_with fail
    refine (acS_add v L name feed sign _ hrd4.out hfit hfa).mono ?_
    rintro e w5 ⟨y, rfl, hy, hb5⟩
    have hrdy := Lib.hid (OwnG.rd hy)
    have hrdx := Lib.hid (hrdx.out.below hb5)
    have hrd5 := Lib.hid (hrd4.out.below hb5)
    have hk5 := Lib.hid (below_trans' hk4.out hb5)
    clear r0 r1 r2 hy hb4 hb5
    have hPe : ∃ P, adA L ⟨name, feed, sign⟩ = P := ⟨_, rfl⟩
    obtain ⟨P, hP⟩ := hPe
    rw [hP] at hrdx hrdy hxform hP8 ⊢
    have qP : (P.2 == P.2) = true := by simp
    go_wp2_with fail
    refine (sameAc_any x y P.1 _ hrdx.out hrdy.out).mono ?_
    rintro e w6 ⟨rfl, n6, rfl⟩
    obtain ⟨w6, hw6⟩ : ∃ w6, w5.drewN n6 = w6 := ⟨_, rfl⟩
    have hb56 : Below w5.heap.size w5 w6 := by rw [← hw6]; exact below_drewN w5 n6
    have hrdx := Lib.hid (hrdx.out.below hb56)
    have hrd6 := Lib.hid (hrd5.out.below hb56)
    have hk6 := Lib.hid (below_trans' hk5.out hb56)
    rw [hw6]
    clear hw6 hb56 hrdy hrd5 hrd4 hrd3 hk5 hk4
    rcases hok : P.2 with _ | _
    · by_cases hF : acsB L = true
      · have hPL : P.1 = L := by
          rw [← hP]
          rcases hG : acsB (insG acL L ⟨name, feed, sign⟩) with _ | _
          · rw [adA_no hF hG]
          · rw [← hP, adA_yes hF hG] at hok; cases hok
        rw [hPL] at hrdx
        go_wp2_with fail
        refine (sameAc_any x v L _ hrdx.out hrd6.out).mono ?_
        rintro e w7 ⟨rfl, n7, rfl⟩
        go_wp2_with (go_at_call 17; refine (alive_any _).mono ?_; rintro e w' ⟨rfl, rfl⟩)
        go_ret
        exact ⟨rfl, below_trans' hb3.out (Below.drawn hk6.out n7)⟩
      · have hF2 : acsB L = false := by simpa using hF
        have hPL : P.1 = [] := by rw [← hP, adA_out hF2]
        have hne : ([] : List Ac).length ≠ L.length := by
          intro e
          have : L = [] := List.length_eq_zero_iff.1 (by simpa using e.symm)
          rw [this, acsB_nil] at hF2; cases hF2
        rw [hPL] at hrdx
        obtain ⟨A, c, rfl, hc⟩ := hrdx.out.nil
        go_wp2_with fail
        refine (sameAc_ne _ v [] L _ hrdx.out hrd6.out hne).mono ?_
        rintro e w7 ⟨rfl, n7, rfl⟩
        go_wp2_with (go_at_call 17; refine (alive_any _).mono ?_; rintro e w' ⟨rfl, rfl⟩)
        go_ret
        exact ⟨rfl, below_trans' hb3.out (Below.drawn hk6.out n7)⟩
    · obtain ⟨hF, hG, hP1⟩ := adA_ok (L := L) (a := ⟨name, feed, sign⟩) (by rw [hP]; exact hok)
      rw [hP] at hP1
      rw [hP1] at hrdx hxform hP8
      have HV := Lib.hid hG
      have HAT := Lib.hid (adA_at hG)
      have HAG := Lib.hid (adA_again hG)
      have hlen := insG_len acL L ⟨name, feed, sign⟩
      have hpl := plc_le acL L ⟨name, feed, sign⟩
      have hget := Lib.hid (insG_at acL L ⟨name, feed, sign⟩)
      have hbk := Lib.hid (insG_back acL L ⟨name, feed, sign⟩)
      have hfitI := fitAcs_take hfit _ hfa
      obtain ⟨M, hM⟩ : ∃ M, insG acL L ⟨name, feed, sign⟩ = M := ⟨_, rfl⟩
      obtain ⟨p, hp⟩ : ∃ p, plc acL L ⟨name, feed, sign⟩ = p := ⟨_, rfl⟩
      have hget2 : Hid (∃ h : p < M.length, M[p] = ⟨name, feed, sign⟩) := Lib.hid (by subst hM; subst hp; exact ⟨by omega, hget.out⟩)
      rw [hM] at hrdx hxform hP8 HV HAT HAG hlen hbk hfitI
      rw [hp] at HAT hpl hbk
      clear hget hM hp hP1 hG hP hok
      obtain ⟨r0, r1, r2⟩ := hrow.out w6 hk6.out
      obtain ⟨hpm, hget⟩ := hget2.out
      clear hlen
      rcases hxform with ⟨rfl, hnil⟩ | ⟨g, cap, rfl, _⟩
      · rw [hnil] at hpm; simp at hpm
      have hcapM : M.length ≤ cap ∧ cap ≤ maxLen := by
        obtain ⟨A, c, hv, q1, q2, _⟩ := hrdx.out
        obtain ⟨_, rfl⟩ : _ ∧ cap = c := by simpa using hv
        exact ⟨q1, q2⟩
      obtain ⟨hcM, hcm⟩ := hcapM
      have hcm' := Lib.hid hcm
      unfold maxLen at hcm
      go_wp2_with fail
      refine (acI_named _ M name _ hrdx.out hfitI).mono ?_
      rintro e w7 ⟨rfl, hb7⟩
      rw [HAT.out]
      have hrdx7 := Lib.hid (hrdx.out.below hb7)
      have hk7 := Lib.hid (below_trans' hk6.out hb7)
      have hrd7 := Lib.hid (hrd6.out.below hb7)
      clear r0 r1 r2 hb7 hrdx hrd6 hk6
      obtain ⟨r0, r1, r2⟩ := hrow.out w7 hk7.out
      go_wp2_with fail
      refine (acI_add _ M name feed sign _ hrdx7.out hfitI hfa).mono ?_
      rintro e w8 ⟨x8, rfl, _, hb8⟩
      rw [HAG.out]
      have hrdx8 := Lib.hid (hrdx7.out.below hb8)
      have hk8 := Lib.hid (below_trans' hk7.out hb8)
      have hrd8 := Lib.hid (hrd7.out.below hb8)
      clear r0 r1 r2 hb8 hrdx7 hrd7 hk7
      have hp0 : ¬ ((p : Int) < 0) := by omega
      have hp1 : decide ((p : Int) < 0) = false := decide_eq_false hp0
      have hp2 : decide ((M.length : Int) ≤ (p : Int)) = false := decide_eq_false (by omega)
      have hp3 : (0 : Int) ≤ (p : Int) := by omega
      have hp4 : (p : Int) < (M.length : Int) := by omega
      have hp5 : (p : Int) ≤ (cap : Int) := by omega
      have hp6 : (p : Int) + 1 ≤ (M.length : Int) := by omega
      have hp7 : (p : Int) + 1 ≤ (cap : Int) := by omega
      have hp8 : p ≤ cap := by omega
      have hp9 : p + 1 ≤ cap := by omega
      have hp10 : p + 1 ≤ M.length := by omega
      have i1 := IntWalk.i64_in ((p : Int) + 1) (by omega)
      have i2 : (0 : Int) ≤ (p : Int) + 1 := by omega
      have i3 : ((p : Int) + 1).toNat = p + 1 := by omega
      obtain ⟨b', o', c', hv, _, _, hb', h4'⟩ := hrdx8.out.some (by intro e; rw [e] at hpm; simp at hpm)
      obtain ⟨⟨rfl, rfl⟩, rfl⟩ : (g = b' ∧ 0 = o') ∧ cap = c' := by simpa using hv
      have hcel := Lib.hid (rdAc_cells h4' hpm)
      rw [hget] at hcel
      simp only [Nat.zero_add] at hcel
      have hcells : Hid (∀ wX, Below w8.heap.size w8 wX → wX.cell? ⟨g, p * 3, none⟩ = some (.string name) ∧ wX.cell? ⟨g, p * 3 + 1, none⟩ = some (.string feed) ∧ wX.cell? ⟨g, p * 3 + 2, none⟩ = some (.int .i64 sign)) := Lib.hid (fun wX hX => by
        obtain ⟨c0, c1, c2⟩ := hcel.out
        exact ⟨by rw [hX.cell (p := ⟨g, p * 3, none⟩) hb']; exact c0, by rw [hX.cell (p := ⟨g, p * 3 + 1, none⟩) hb']; exact c1, by rw [hX.cell (p := ⟨g, p * 3 + 2, none⟩) hb']; exact c2⟩)
      clear h4' hv hcel hget2 hget
      have q0 := str_same (a := name) (b := name) rfl
      have q1 := str_same (a := feed) (b := feed) rfl
      have q2 : (sign == sign) = true := by simp
      have hll1 : ([] : List Ac).length + (M.take p).length ≤ 1073741824 := by rw [List.length_take]; simp; omega
      have hll2 : (M.take p).length + (M.drop (p + 1)).length ≤ 1073741824 := by rw [List.length_take, List.length_drop]; omega
      have HS : ∀ wX, Below w8.heap.size w8 wX → (fun w' => w'.cell? ⟨g, p * 3, none⟩ = some (.string name) ∧ w'.cell? ⟨g, p * 3 + 1, none⟩ = some (.string feed) ∧ w'.cell? ⟨g, p * 3 + 2, none⟩ = some (.int .i64 sign) ∧ w'.cell? ⟨w2.heap.size, 0, none⟩ = some (.string name) ∧ w'.cell? ⟨w2.heap.size, 1, none⟩ = some (.string feed) ∧ w'.cell? ⟨w2.heap.size, 2, none⟩ = some (.int .i64 sign) ∧ Hid (Below w8.heap.size w8 w')) wX := fun wX hX => by
        obtain ⟨c0, c1, c2⟩ := hcells.out wX hX
        obtain ⟨r0, r1, r2⟩ := hrow.out wX (below_trans' hk8.out hX)
        exact ⟨c0, c1, c2, r0, r1, r2, Lib.hid hX⟩
      have HS := Lib.hid HS
      have hS8 := Lib.hid (HS.out w8.drew (Below.drew (Below.refl _ _)))
      go_wp2_with fail
      by_cases hck : cap = p + 1
      · have hml : Hid (M.length = p + 1) := Lib.hid (by omega)
        have hck0 : cap - (p + 1) = 0 := by omega
        have hckh := Lib.hid hck
        have hck2 : p < cap := by omega
        clear hck
        go_region_held3 (fun w' => w'.cell? ⟨g, p * 3, none⟩ = some (.string name) ∧ w'.cell? ⟨g, p * 3 + 1, none⟩ = some (.string feed) ∧ w'.cell? ⟨g, p * 3 + 2, none⟩ = some (.int .i64 sign) ∧ w'.cell? ⟨w2.heap.size, 0, none⟩ = some (.string name) ∧ w'.cell? ⟨w2.heap.size, 1, none⟩ = some (.string feed) ∧ w'.cell? ⟨w2.heap.size, 2, none⟩ = some (.int .i64 sign) ∧ Hid (Below w8.heap.size w8 w'))
          (first | exact hS8.out | exact hS9.out | exact hS9a.out | exact hS10.out | exact hS11.out | exact hS12.out)
          (first
            | (go_at_call 22; ((with_reducible refine (acI_valid _ M _ (hrdx8.out.below (Below.drew (Below.refl _ _))) hfitI).mono ?_); rintro e w9 ⟨rfl, hb9⟩; rw [HV.out]; have hrdx9 := Lib.hid ((hrdx8.out.below (Below.drew (Below.refl _ _))).below hb9); have hrd9 := Lib.hid ((hrd8.out.below (Below.drew (Below.refl _ _))).below hb9); have hw9 := Lib.hid (below_trans' (Below.drew (Below.refl w8.heap.size w8)) hb9); have hk9 := Lib.hid (below_trans' (Below.drew hk8.out) hb9); have hS9 := Lib.hid (HS.out w9 hw9.out); have hS9a := Lib.hid (HS.out (w9.alloc (.cells #[] 33)) (hw9.out.alloc hw9.out.size _)); clear hb9))
            | (refine stepAcG (by rfl) (.tmp 87) (.tmp 90) rfl w9.heap.size _ _ [] (M.take p) rfl (own0_lit _ _ _ w9 w9.heap.size (Nat.le_refl _)) (by simp) rfl ((rdG_take encAc_len hrdx9.out p (by omega) cap hp8 hcm'.out).below ((Below.refl _ _).alloc (Nat.le_refl _) _)) hll1 ?_; intro v10 w10 hown10 hg10; rw [List.nil_append] at hown10; have hB10 := Lib.hid (((Below.refl w9.heap.size w9).alloc (Nat.le_refl _) _).grown hg10 (by simp) (fun q hq => by cases hq; exact Nat.le_refl _)); have hS10 := Lib.hid (HS.out w10 (below_trans' hw9.out hB10.out)); have hown10 := Lib.hid hown10; clear hg10)
            | (refine stepAcG (by rfl) (.tmp 91) (.tmp 95) rfl w9.heap.size _ _ (M.take p) (M.drop (p + 1)) rfl hown10.out hB10.out.size rfl (rdG_restA encAc_len (hrdx9.out.below hB10.out) (p + 1) hp10 _ _ _ (by first | exact fun _ => rfl | (intro q; omega) | (intro q; have := hml.out; omega) | (intro q; simp)) (by first | omega | (have := hml.out; have := hckh.out; omega)) (by first | omega | (have := hml.out; have := hckh.out; omega)) (by first | omega | (have := hml.out; have := hckh.out; omega))) hll2 ?_; intro v11 w11 hown11 hg11; rw [hbk.out] at hown11; have hB11 := Lib.hid (own_below' hown10.out hB10.out hg11); have hS11 := Lib.hid (HS.out w11 (below_trans' hw9.out hB11.out)); have hown11 := Lib.hid hown11; clear hg11)
            | (go_at_call 30; ((refine (sameAc_any _ _ L _ (OwnG.rd hown11.out) (hrd9.out.below hB11.out)).mono ?_); rintro e w12 ⟨rfl, n12, rfl⟩; have hS12 := Lib.hid (HS.out _ (Below.drawn (below_trans' hw9.out hB11.out) n12)))))
        go_split_ands
        rename Hid (Below w8.heap.size w8 _) => hE
        go_wp2
        go_ret
        exact ⟨rfl, below_trans' hb3.out (below_trans' hk8.out hE.out)⟩
      · have hck1 : ¬ (cap - (p + 1) = 0) := by omega
        have hck2 : p + 1 < cap := by omega
        go_region_held3 (fun w' => w'.cell? ⟨g, p * 3, none⟩ = some (.string name) ∧ w'.cell? ⟨g, p * 3 + 1, none⟩ = some (.string feed) ∧ w'.cell? ⟨g, p * 3 + 2, none⟩ = some (.int .i64 sign) ∧ w'.cell? ⟨w2.heap.size, 0, none⟩ = some (.string name) ∧ w'.cell? ⟨w2.heap.size, 1, none⟩ = some (.string feed) ∧ w'.cell? ⟨w2.heap.size, 2, none⟩ = some (.int .i64 sign) ∧ Hid (Below w8.heap.size w8 w'))
          (first | exact hS8.out | exact hS9.out | exact hS9a.out | exact hS10.out | exact hS11.out | exact hS12.out)
          (first
            | (go_at_call 22; ((with_reducible refine (acI_valid _ M _ (hrdx8.out.below (Below.drew (Below.refl _ _))) hfitI).mono ?_); rintro e w9 ⟨rfl, hb9⟩; rw [HV.out]; have hrdx9 := Lib.hid ((hrdx8.out.below (Below.drew (Below.refl _ _))).below hb9); have hrd9 := Lib.hid ((hrd8.out.below (Below.drew (Below.refl _ _))).below hb9); have hw9 := Lib.hid (below_trans' (Below.drew (Below.refl w8.heap.size w8)) hb9); have hk9 := Lib.hid (below_trans' (Below.drew hk8.out) hb9); have hS9 := Lib.hid (HS.out w9 hw9.out); have hS9a := Lib.hid (HS.out (w9.alloc (.cells #[] 33)) (hw9.out.alloc hw9.out.size _)); clear hb9))
            | (refine stepAcG (by rfl) (.tmp 87) (.tmp 90) rfl w9.heap.size _ _ [] (M.take p) rfl (own0_lit _ _ _ w9 w9.heap.size (Nat.le_refl _)) (by simp) rfl ((rdG_take encAc_len hrdx9.out p (by omega) cap hp8 hcm'.out).below ((Below.refl _ _).alloc (Nat.le_refl _) _)) hll1 ?_; intro v10 w10 hown10 hg10; rw [List.nil_append] at hown10; have hB10 := Lib.hid (((Below.refl w9.heap.size w9).alloc (Nat.le_refl _) _).grown hg10 (by simp) (fun q hq => by cases hq; exact Nat.le_refl _)); have hS10 := Lib.hid (HS.out w10 (below_trans' hw9.out hB10.out)); have hown10 := Lib.hid hown10; clear hg10)
            | (refine stepAcG (by rfl) (.tmp 91) (.tmp 95) rfl w9.heap.size _ _ (M.take p) (M.drop (p + 1)) rfl hown10.out hB10.out.size rfl (rdG_restA encAc_len (hrdx9.out.below hB10.out) (p + 1) hp10 _ _ _ (by first | exact fun _ => rfl | (intro q; omega) | (intro q; have := hml.out; omega) | (intro q; simp)) (by first | omega | (have := hml.out; have := hckh.out; omega)) (by first | omega | (have := hml.out; have := hckh.out; omega)) (by first | omega | (have := hml.out; have := hckh.out; omega))) hll2 ?_; intro v11 w11 hown11 hg11; rw [hbk.out] at hown11; have hB11 := Lib.hid (own_below' hown10.out hB10.out hg11); have hS11 := Lib.hid (HS.out w11 (below_trans' hw9.out hB11.out)); have hown11 := Lib.hid hown11; clear hg11)
            | (go_at_call 30; ((refine (sameAc_any _ _ L _ (OwnG.rd hown11.out) (hrd9.out.below hB11.out)).mono ?_); rintro e w12 ⟨rfl, n12, rfl⟩; have hS12 := Lib.hid (HS.out _ (Below.drawn (below_trans' hw9.out hB11.out) n12)))))
        go_split_ands
        rename Hid (Below w8.heap.size w8 _) => hE
        go_wp2
        go_ret
        exact ⟨rfl, below_trans' hb3.out (below_trans' hk8.out hE.out)⟩

/-! ### THE ROW's STEP: WRITTEN OUT: LEAVE IT -/
set_option maxRecDepth 100000 in
theorem lifted (os : Os) (started : os.Started) (H : Type) (enc : TypeId × Value → H) :
    ReturnsInHanded {} Try.checked os 7 .any (Rows.fnAddActorSpec.pre6 enc Try.prog Try.f7 Rows.fnAddActorRow.domain false) (Rows.fnAddActorSpec.post enc Try.prog Try.f7 false true false false) := by
  refine returnsInHanded_of_change (C := Try.checked) own started (by kernel_rfl) Try.func7
    (ChangeSpec.witness6 (enc := enc) (C := Try.checked) false ⟨#[], #[.slice none 0 0], []⟩ 8 (by kernel_rfl) (by kernel_rfl) (by kernel_rfl) (by kernel_rfl)) ?_
  intro W base args ds gs before hval0 hW hcnd _
  have hval : ∀ (j : Nat) t v, Try.f7.params[j]? = some t → args[j]? = some v → Value.okWide Try.prog W .any base t v := hval0
  have hW' := hW
  obtain ⟨p, q, hA0, hV, rfl, hfz, hnd⟩ := hW
  have hA : DataW.TrodAll enc Try.prog W 0 (fun _ => true) true Try.f7.params.toList args.toList ds p := hA0
  rw [Try.params7] at hA hval
  obtain ⟨v0, vs0, d0, ds0, p0, q0, hargs, rfl, rfl, h0, r0⟩ := trodAll_cons hA
  obtain ⟨rfl, rfl, rfl⟩ := trodAll_nil r0
  obtain rfl : args = #[v0] := by cases args; simp_all
  obtain ⟨rfl, rfl⟩ := trodVars_none hV
  obtain ⟨a0, len0, cap0, rfl⟩ := okWide_slice Try.underlying22 (hval 0 22 v0 rfl rfl)
  have k0 := h0
  have lt0 : ∀ x ∈ p0, x.block < W.heap.size := by obtain ⟨m, hm⟩ := k0; exact DataW.trod_lt m _ _ _ hm
  obtain ⟨z0, w0⟩ : ∃ zs, IsRow .u8 W a0 len0 cap0 zs := by
    obtain ⟨fuel, hf⟩ := h0
    rcases open_ints Try.underlying22 Try.underlying5 (by kernel_rfl) hf with ⟨hcs, _⟩ | ⟨x, l, c, zs, hcs, _, hl, hm, hz, _, hcell, hwz⟩
    · simp [Value.cells] at hcs
      obtain ⟨rfl, rfl, rfl⟩ := hcs
      exact ⟨[], .inl ⟨rfl, rfl, rfl, rfl⟩⟩
    · simp [Value.cells] at hcs
      obtain ⟨rfl, rfl, rfl⟩ := hcs
      exact ⟨zs, .inr ⟨_, rfl, hl, hm, by simpa using hz, hcell, hwz⟩⟩
  clear hA0 hval0
  refine (walk a0 len0 cap0 z0 W w0).mono fun e W' ⟨he, bel⟩ => ?_
  subst he
  exact ⟨_, rfl, _, _, _, [], _, [], hW', trodAll_mk1 (shut_bool Try.underlying4 _), (trodAll_cons_mk (Below.trod laidOut (by kernel_rfl) (of_decide_eq_true (by kernel_rfl)) k0 bel lt0) trodAll_mk0), rfl, bel.frame _, fun h => by cases h⟩

theorem over : Rows.fnAddActorRow.holds Try.pinned (OpenSpec.ofChange Rows.fnAddActorSpec) :=
  OpenClaim.holds_of_wide 7 Try.f7 rfl rfl rfl rfl rfl rfl rfl ⟨rfl, rfl, rfl, rfl, rfl⟩ rfl rfl rfl rfl rfl (by kernel_rfl) Try.func7 (by kernel_rfl)
    (of_decide_eq_true (by kernel_rfl)) (by unfold Func.isWrapper; first | (rw [if_pos (by decide +kernel)]; kernel_rfl) | (rw [if_neg (by decide +kernel)]; exact ⟨rfl, rfl⟩))
    (fun os started H enc _ => lifted os started H enc)

/-- ████ THE STATEMENT ████ -/
theorem proved : Rows.FnAddActorSaid := over
#print axioms proved
end Go.Proofs.Ytacapigdfabiiaa.fnAddActor
