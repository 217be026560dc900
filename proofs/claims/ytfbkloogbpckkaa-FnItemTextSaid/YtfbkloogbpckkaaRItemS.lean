/-
  The verifier's own text: RItemS.
-/
import Derived.Test.YtfbkloogbpckkaaRows
import Derived.Test.YtfbkloogbpckkaaItemTS
import Derived.Test.YtfbkloogbpckkaaGk
import Derived.Test.YtfbkloogbpckkaaGg
import Derived.WalkKit
import Derived.ProofKit
import Derived.Below
import Derived.Lib.Hide
import Derived.Outline
import Derived.BigQuiet
import Derived.Deep.QuietTactic
import Derived.Deep.Draws
import Derived.Laws.OwnMore
import Derived.Laws.Rows
import Derived.WalkSpells
import Derived.Deep.RegionWith
namespace Go.Proofs.Ytfbkloogbpckkaa
open Go.RowKit
set_option linter.unusedVariables false
/-- an item and whether there is one, in full -/
def GotIR (s : List UInt8) (w : World) (e : Ending) (w' : World) : Prop := ∃ (L : EL) (ok : Bool) (k t b : ByteArray) (d : Int) (z : Bool), RdE s L ok ∧ itR L = (⟨k, t, b, d⟩, z) ∧ e = .returned (.tuple #[.agg #[.string k, .string t, .string b, .int .i64 d], .bool z]) ∧ Below w.heap.size w w'
def nmJ (j : Nat) : ByteArray := if j = 0 then kKey else if j = 1 then kTitle else if j = 2 then kDay else kBody
def chkJ (L : EL) (j : Nat) : Bool := if j = 3 then decide (cntE L (nmJ j) ≤ 1) else decide (cntE L (nmJ j) = 1)
def okJ (ok : Bool) (L : EL) : Nat → Bool
  | 0 => ok
  | j + 1 => okJ ok L j && chkJ L j
theorem okJ_four (ok : Bool) (L : EL) : okJ ok L 4 = (ok && cntOk L) := by
  simp [okJ, chkJ, nmJ, cntOk, Bool.and_assoc]
theorem okJ_bad {ok : Bool} {L : EL} {j : Nat} (h : chkJ L j = false) : okJ ok L (j + 1) = false := by simp [okJ, h]
theorem okJ_good {ok : Bool} {L : EL} {j : Nat} (h : chkJ L j = true) : okJ ok L (j + 1) = okJ ok L j := by simp [okJ, h]
theorem chk_many {L : EL} {j : Nat} (h : 1 < cntE L (nmJ j)) : chkJ L j = false := by unfold chkJ; split <;> simp <;> omega
theorem chk_none {L : EL} {j : Nat} (h : cntE L (nmJ j) = 0) (hj : j < 3) : chkJ L j = false := by
  unfold chkJ; rw [if_neg (by omega), h]; rfl
theorem chk_one {L : EL} {j : Nat} (h : cntE L (nmJ j) = 1) : chkJ L j = true := by unfold chkJ; rw [h]; split <;> rfl
theorem chk_last {L : EL} {j : Nat} (h : cntE L (nmJ j) = 0) (hj : ¬ j < 3) (h4 : j < 4) : chkJ L j = true := by
  unfold chkJ; rw [if_pos (by omega), h]; rfl
theorem nmJ_cells (w : World) (j : Nat) (hj : j < 4) : (w.alloc (.cells #[.string ⟨#[107, 101, 121]⟩, .string ⟨#[116, 105, 116, 108, 101]⟩, .string ⟨#[100, 97, 121]⟩, .string ⟨#[98, 111, 100, 121]⟩] 9)).cell? ⟨w.heap.size, j, none⟩ = some (.string (nmJ j)) := by
  rw [World.cell?_alloc_new]
  obtain rfl | rfl | rfl | rfl : j = 0 ∨ j = 1 ∨ j = 2 ∨ j = 3 := by omega
  all_goals rfl
theorem zero_ret {L : EL} {ok : Bool} {s : List UInt8} (hR : RdE s L ok) (h : okJ ok L 4 = false) : itR L = (It.zero, false) := by
  rw [okJ_four] at h
  rcases ok with _ | _
  · rcases hR with ⟨q, _⟩ | ⟨_, q, _⟩
    · cases q
    · rw [q]; exact itR_nil
  · exact itR_cnt (by simpa using h)
set_option maxRecDepth 100000 in
set_option maxHeartbeats 16000000 in
theorem rdS_item (s : ByteArray) (w : World) (hs : s.size ≤ 90000000) :
    Calls Try.prog 18 #[.string s] w (GotIR s.data.toList w) := by
  obtain ⟨w1, hw1⟩ : ∃ w1, w.alloc (.cells #[.string ⟨#[]⟩, .string ⟨#[]⟩, .string ⟨#[]⟩, .int .i64 0] 24) = w1 := ⟨_, rfl⟩
  have hw1s : w1.heap.size = w.heap.size + 1 := by rw [← hw1]; simp
  have hzero : ∀ j u, (#[.string ⟨#[]⟩, .string ⟨#[]⟩, .string ⟨#[]⟩, .int .i64 0] : Array Value)[j]? = some u → w1.cell? ⟨w.heap.size, j, none⟩ = some u := fun j u h => by rw [← hw1, World.cell?_alloc_new]; exact h
  have hfz : ∀ j, w1.frozen? ⟨w.heap.size, j, none⟩ = false := fun j => by
    have h := heap_alloc_new w (.cells #[.string ⟨#[]⟩, .string ⟨#[]⟩, .string ⟨#[]⟩, .int .i64 0] 24)
    rw [hw1] at h; simp [World.frozen?, h]
  have hb1 : Below w.heap.size w w1 := by rw [← hw1]; exact (Below.refl _ _).alloc (Nat.le_refl _) _
  have hzero := Lib.hid hzero
  have hfz := Lib.hid hfz
  have hb1 := Lib.hid hb1
  go_enter Try.func18, Try.ntmps18
  go_wp2_with fail
  have hw1 := Lib.hid hw1
  have hw1s := Lib.hid hw1s
  refine (rdS_elems s w1 hs).mono ?_
  rintro e w2 ⟨v, L, ok, rfl, hR, hown, hb2⟩
  have hrd2 := OwnG.rd hown
  have HR := Lib.hid hR
  have HB2 := Lib.hid hb2
  clear hR hown hb2
  obtain ⟨A, c, rfl, hLc, hcm⟩ : ∃ A c, v = .slice A L.length c ∧ L.length ≤ c ∧ c ≤ maxLen := by obtain ⟨A, c, hv, h1, h2, _⟩ := hrd2; exact ⟨A, c, hv, h1, h2⟩
  unfold maxLen at hcm
  have h8 : L.length ≤ 8 := by
    rcases HR.out with ⟨_, h, _⟩ | ⟨_, h, _⟩
    · exact elB_len h
    · rw [h]; simp
  have hfit : FitE L := by
    rcases HR.out with ⟨_, h, _⟩ | ⟨_, h, _⟩
    · exact fitE_of' h
    · rw [h]; intro e m; simp at m
  go_wp2
  obtain ⟨w3, hw3⟩ : ∃ w3, w2.alloc (.cells #[.string ⟨#[107, 101, 121]⟩, .string ⟨#[116, 105, 116, 108, 101]⟩, .string ⟨#[100, 97, 121]⟩, .string ⟨#[98, 111, 100, 121]⟩] 9) = w3 := ⟨_, rfl⟩
  have hb23 : Below w2.heap.size w2 w3 := by rw [← hw3]; exact (Below.refl _ _).alloc (Nat.le_refl _) _
  have hnm : ∀ j, j < 4 → w3.cell? ⟨w2.heap.size, j, none⟩ = some (.string (nmJ j)) := fun j hj => by rw [← hw3]; exact nmJ_cells w2 j hj
  have hnm := Lib.hid hnm
  have hrd3 := hrd2.below hb23
  have HB3 := Lib.hid (below_trans' HB2.out hb23)
  rw [hw3]
  clear hb23 hrd2
  have hw3 := Lib.hid hw3
  go_loopw [5, 7, 8, 9] (fun okv jv mv kv wr => ∃ j : Nat, j ≤ 4 ∧ jv = .int .i64 j ∧ okv = .bool (okJ ok L j) ∧ Hid (∃ m, wr = w3.drewN m)) (fun _ jv _ _ _ => 4 - (intOf jv).toNat)
  case atStart => exact ⟨0, by omega, rfl, rfl, Lib.hid ⟨0, rfl⟩⟩
  case round =>
    obtain ⟨j, hj, rfl, rfl, hwr⟩ := hrel
    by_cases hj4 : j < 4
    · obtain ⟨ob, hob⟩ : ∃ ob, okJ ok L j = ob := ⟨_, rfl⟩
      have HOB := Lib.hid hob
      rw [hob]
      clear hob
      have hjj : (j : Int) < 4 := by omega
      have hj0 : (0 : Int) ≤ (j : Int) := by omega
      go_wp2
      obtain ⟨wo, rfl⟩ : ∃ wo : World, wo = wr := ⟨_, rfl⟩
      go_loopw [8, 9] (fun mv kv wi => ∃ k : Nat, k ≤ L.length ∧ kv = .int .i64 k ∧ mv = .int .i64 (cntE (L.take k) (nmJ j)) ∧ Hid (∃ m, wi = w3.drewN m)) (fun _ kv _ => L.length - (intOf kv).toNat)
      case atStart => exact ⟨0, Nat.zero_le _, rfl, by simp [cntE], hwr⟩
      case round =>
        obtain ⟨k, hk, rfl, rfl, hwi⟩ := hrel
        by_cases hlt : k < L.length
        · have hc : wr.cell? ⟨w2.heap.size, j, none⟩ = some (.string (nmJ j)) := by obtain ⟨m, hm⟩ := hwi.out; rw [hm]; exact hnm.out j hj4
          have hL : L ≠ [] := by intro e; rw [e] at hlt; simp at hlt
          obtain ⟨b, o, c', hv, _, _, hb, h4⟩ := hrd3.some hL
          obtain ⟨rfl, rfl⟩ : A = some ⟨b, o, none⟩ ∧ c = c' := by simpa using hv
          have hd : wr.cell? ⟨b, o + k * 2, none⟩ = some (.string L[k].1) := by obtain ⟨m, hm⟩ := hwi.out; rw [hm]; exact (rdE_cells h4 hlt).1
          have hct := Lib.hid (cnt_take (n := nmJ j) hlt)
          have hle : cntE (L.take k) (nmJ j) ≤ 8 := by
            have := List.countP_le_length (p := fun e : ByteArray × ByteArray => decide (e.1 = nmJ j)) (l := L.take k)
            have := List.length_take_le k L
            unfold cntE; omega
          obtain ⟨q, hq⟩ : ∃ q, cntE (L.take k) (nmJ j) = q := ⟨_, rfl⟩
          rw [hq] at hle hct ⊢
          obtain ⟨nm, hnme⟩ : ∃ nm, L[k].1 = nm := ⟨_, rfl⟩
          rw [hnme] at hd hct
          have hk0 : (0 : Int) ≤ (k : Int) := by omega
          have hkk : (k : Int) < (L.length : Int) := by omega
          clear h4 hq hnme hv
          by_cases hn : nm = nmJ j
          · have hN : Hid (cntE (L.take (k + 1)) (nmJ j) = q + 1) := Lib.hid (by rw [hct.out, if_pos hn])
            have e := str_same hn
            clear hn
            go_wp2
            go_quiet (fail)
            go_wp2
            go_roundw
            case rel => exact ⟨k + 1, by omega, by go_num, by rw [hN.out]; go_num, Lib.hid (by obtain ⟨m, hm⟩ := hwi.out; exact ⟨_, by rw [hm, drewN_add]⟩)⟩
            case measure => simp [intOf]; omega
          · have hN : Hid (cntE (L.take (k + 1)) (nmJ j) = q) := Lib.hid (by rw [hct.out, if_neg hn]; rfl)
            have e := str_other hn
            clear hn
            go_wp2
            go_quiet (fail)
            go_wp2
            go_roundw
            case rel => exact ⟨k + 1, by omega, by go_num, by rw [hN.out], Lib.hid (by obtain ⟨m, hm⟩ := hwi.out; exact ⟨_, by rw [hm, drewN_add]⟩)⟩
            case measure => simp [intOf]; omega
        · have hfull : L.take k = L := List.take_of_length_le (by omega)
          rw [hfull]
          obtain ⟨q, hq⟩ : ∃ q, cntE L (nmJ j) = q := ⟨_, rfl⟩
          have hle : q ≤ 8 := by
            have := List.countP_le_length (p := fun e : ByteArray × ByteArray => decide (e.1 = nmJ j)) (l := L)
            rw [← hq]; unfold cntE; omega
          rw [hq]
          have HQ := Lib.hid hq
          clear hq hfull
          by_cases hm1 : 1 < q
          · have HN := Lib.hid (okJ_bad (ok := ok) (chk_many (j := j) (by rw [HQ.out]; exact hm1)))
            go_wp2
            go_roundw
            case rel => exact ⟨j + 1, by omega, by go_num, by rw [HN.out], hwi⟩
            case measure => simp [intOf]; omega
          · by_cases hm0 : q = 0
            · subst hm0
              by_cases hj3 : j < 3
              · have HN := Lib.hid (okJ_bad (ok := ok) (chk_none (j := j) HQ.out hj3))
                go_wp2
                go_roundw
                case rel => exact ⟨j + 1, by omega, by go_num, by rw [HN.out], hwi⟩
                case measure => simp [intOf]; omega
              · have HN := Lib.hid ((okJ_good (ok := ok) (chk_last (j := j) HQ.out hj3 hj4)).trans HOB.out)
                have hj3' : j = 3 := by omega
                subst hj3'
                go_wp2
                go_roundw
                case rel => exact ⟨3 + 1, by omega, by go_num, by rw [HN.out], hwi⟩
                case measure => simp [intOf]
            · have hq1 : q = 1 := by omega
              subst hq1
              have HN := Lib.hid ((okJ_good (ok := ok) (chk_one (j := j) HQ.out)).trans HOB.out)
              go_wp2
              go_roundw
              case rel => exact ⟨j + 1, by omega, by go_num, by rw [HN.out], hwi⟩
              case measure => simp [intOf]; omega
    · have hj44 : j = 4 := by omega
      subst hj44
      obtain ⟨m0, hm0⟩ := hwr.out
      obtain ⟨w4, hw4⟩ : ∃ w4, w3.drewN m0 = w4 := ⟨_, rfl⟩
      rw [hw4] at hm0
      subst hm0
      have hrd4 : RdG encE wr (.slice A L.length c) L := by rw [← hw4]; exact hrd3.below (below_drewN w3 m0)
      have hx34 : Below w3.heap.size w3 wr := by rw [← hw4]; exact below_drewN w3 m0
      have HB4 := Lib.hid (below_trans' HB3.out hx34)
      clear hw4 hwr hrd3 hx34
      rcases hO : okJ ok L 4 with _ | _
      · have HZ := Lib.hid (zero_ret HR.out hO)
        have z : ∀ j u, (#[.string ⟨#[]⟩, .string ⟨#[]⟩, .string ⟨#[]⟩, .int .i64 0] : Array Value)[j]? = some u → wr.cell? ⟨w.heap.size, j, none⟩ = some u := fun j u h => by
          rw [HB4.out.cell (p := ⟨w.heap.size, j, none⟩) (by rw [hw1s.out]; exact Nat.lt_succ_self _)]; exact hzero.out j u h
        have z0 := z 0 _ rfl
        have z1 := z 1 _ rfl
        have z2 := z 2 _ rfl
        have z3 := z 3 _ rfl
        have zf : ∀ j, wr.frozen? ⟨w.heap.size, j, none⟩ = false := fun j => by
          rw [HB4.out.frozen (p := ⟨w.heap.size, j, none⟩) (by rw [hw1s.out]; exact Nat.lt_succ_self _)]; exact hfz.out j
        clear z hO
        have HBw := Lib.hid (below_trans' hb1.out HB4.out)
        go_wp2
        refine bodyPost_ret (v := .tuple #[.agg #[.string ⟨#[]⟩, .string ⟨#[]⟩, .string ⟨#[]⟩, .int .i64 0], .bool false]) (by simp [results, Try.results18, go_sem, z0, z1, z2, z3]) rfl ⟨L, ok, _, _, _, _, false, HR.out, HZ.out, rfl, ?_⟩
        exact (((HBw.out.setCell (Nat.le_refl _) _).setCell (Nat.le_refl _) _).setCell (Nat.le_refl _) _).setCell (Nat.le_refl _) _
      · have hO2 := hO
        rw [okJ_four] at hO2
        obtain ⟨hok, hcn⟩ : ok = true ∧ cntOk L = true := by simpa using hO2
        have hBL : elB L = true := by
          rcases HR.out with ⟨_, h, _⟩ | ⟨h, _⟩
          · exact h
          · rw [hok] at h; cases h
        have HC := Lib.hid hcn
        have sz := fun n => fst_size (n := n) hBL
        have ex := fun n => elX_fst (n := n) hBL
        clear hO hO2 hok hcn hBL
        have ex1 := Lib.hid (ex kKey)
        have ex2 := Lib.hid (ex kTitle)
        have ex3 := Lib.hid (ex kBody)
        have ex4 := Lib.hid (ex kDay)
        have m4 : (fstE L kDay).size ≤ maxLen := by have := sz kDay; unfold maxLen; omega
        have hfi : FitI (itOf L) := ⟨by have := sz kKey; show (fstE L kKey).size ≤ _; omega, by have := sz kTitle; show (fstE L kTitle).size ≤ _; omega, by have := sz kBody; show (fstE L kBody).size ≤ _; omega⟩
        clear sz ex
        have hit : Hid (itOf L = ⟨fstE L kKey, fstE L kTitle, fstE L kBody, readD (fstE L kDay).data.toList⟩) := Lib.hid rfl
        go_wp2_with fail
        refine (elS_find _ L kKey _ hrd4 hfit).mono ?_
        rintro e w' ⟨rfl, rfl⟩
        rw [ex1.out]
        go_wp2_with fail
        refine (elS_find _ L kTitle _ hrd4 hfit).mono ?_
        rintro e w' ⟨rfl, rfl⟩
        rw [ex2.out]
        go_wp2_with fail
        refine (elS_find _ L kBody _ hrd4 hfit).mono ?_
        rintro e w' ⟨rfl, rfl⟩
        rw [ex3.out]
        go_wp2_with fail
        refine (elS_find _ L kDay _ hrd4 hfit).mono ?_
        rintro e w' ⟨rfl, rfl⟩
        rw [ex4.out]
        obtain ⟨xk, hxk⟩ : ∃ x, fstE L kKey = x := ⟨_, rfl⟩
        obtain ⟨xt, hxt⟩ : ∃ x, fstE L kTitle = x := ⟨_, rfl⟩
        obtain ⟨xb, hxb⟩ : ∃ x, fstE L kBody = x := ⟨_, rfl⟩
        obtain ⟨xd, hxd⟩ : ∃ x, fstE L kDay = x := ⟨_, rfl⟩
        rw [hxk, hxt, hxb, hxd] at hit
        rw [hit.out] at hfi
        rw [hxd] at m4
        rw [hxk, hxt, hxb, hxd]
        clear hxk hxt hxb hxd ex1 ex2 ex3 ex4
        obtain ⟨dn, hdn⟩ : ∃ dn, readD xd.data.toList = dn := ⟨_, rfl⟩
        rw [hdn] at hit hfi
        have hdn := Lib.hid hdn
        have hsz4 := HB4.out.size
        go_wp2_with fail
        refine (rdS_any xd _ m4).mono ?_
        rintro e w5 ⟨rfl, hb5⟩
        rw [hdn.out]
        have HB5 := Lib.hid (below_trans' HB4.out hb5)
        have hsz5 := HB5.out.size
        have hb6 := Lib.hid (HB5.out.alloc hsz5 (.cells #[.string xk, .string xt, .string xb, .int .i64 dn] 24))
        have hlt6 : w5.heap.size < (w5.alloc (.cells #[.string xk, .string xt, .string xb, .int .i64 dn] 24)).heap.size := by simp
        have hlt6 := Lib.hid hlt6
        clear hb5
        go_wp2_with fail
        refine (itS_valid xk xt xb dn _ hfi).mono ?_
        rintro e w7 ⟨rfl, hb7⟩
        have i0 : w7.cell? ⟨w5.heap.size, 0, none⟩ = some (.string xk) := by rw [hb7.cell (p := ⟨w5.heap.size, 0, none⟩) hlt6.out, World.cell?_alloc_new]; rfl
        have i1 : w7.cell? ⟨w5.heap.size, 1, none⟩ = some (.string xt) := by rw [hb7.cell (p := ⟨w5.heap.size, 1, none⟩) hlt6.out, World.cell?_alloc_new]; rfl
        have i2 : w7.cell? ⟨w5.heap.size, 2, none⟩ = some (.string xb) := by rw [hb7.cell (p := ⟨w5.heap.size, 2, none⟩) hlt6.out, World.cell?_alloc_new]; rfl
        have i3 : w7.cell? ⟨w5.heap.size, 3, none⟩ = some (.int .i64 dn) := by rw [hb7.cell (p := ⟨w5.heap.size, 3, none⟩) hlt6.out, World.cell?_alloc_new]; rfl
        have HB7 := Lib.hid (below_trans' hb6.out hb7)
        have z : ∀ j u, (#[.string ⟨#[]⟩, .string ⟨#[]⟩, .string ⟨#[]⟩, .int .i64 0] : Array Value)[j]? = some u → w7.cell? ⟨w.heap.size, j, none⟩ = some u := fun j u h => by
          rw [HB7.out.cell (p := ⟨w.heap.size, j, none⟩) (by rw [hw1s.out]; exact Nat.lt_succ_self _)]; exact hzero.out j u h
        have z0 := z 0 _ rfl
        have z1 := z 1 _ rfl
        have z2 := z 2 _ rfl
        have z3 := z 3 _ rfl
        have zf : ∀ j, w7.frozen? ⟨w.heap.size, j, none⟩ = false := fun j => by
          rw [HB7.out.frozen (p := ⟨w.heap.size, j, none⟩) (by rw [hw1s.out]; exact Nat.lt_succ_self _)]; exact hfz.out j
        have HBw := Lib.hid (below_trans' hb1.out HB7.out)
        clear z hb7
        rcases hiB : itB ⟨xk, xt, xb, dn⟩ with _ | _
        · have HZ : Hid (itR L = (It.zero, false)) := Lib.hid (itR_bad (by rw [hit.out]; exact hiB))
          clear hiB
          go_wp2
          refine bodyPost_ret (v := .tuple #[.agg #[.string ⟨#[]⟩, .string ⟨#[]⟩, .string ⟨#[]⟩, .int .i64 0], .bool false]) (by simp [results, Try.results18, go_sem, z0, z1, z2, z3]) rfl ⟨L, ok, _, _, _, _, false, HR.out, HZ.out, rfl, ?_⟩
          exact (((HBw.out.setCell (Nat.le_refl _) _).setCell (Nat.le_refl _) _).setCell (Nat.le_refl _) _).setCell (Nat.le_refl _) _
        · have HZ : Hid (itR L = (⟨xk, xt, xb, dn⟩, true)) := Lib.hid (by rw [itR_in HC.out (by rw [hit.out]; exact hiB), hit.out])
          clear hiB
          go_wp2
          refine bodyPost_ret (v := .tuple #[.agg #[.string xk, .string xt, .string xb, .int .i64 dn], .bool true]) (by simp [results, Try.results18, go_sem, z0, z1, z2, z3]) rfl ⟨L, ok, _, _, _, _, true, HR.out, HZ.out, rfl, ?_⟩
          exact (((HBw.out.setCell (Nat.le_refl _) _).setCell (Nat.le_refl _) _).setCell (Nat.le_refl _) _).setCell (Nat.le_refl _) _
end Go.Proofs.Ytfbkloogbpckkaa
