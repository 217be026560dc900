/-
  The verifier's own text: LawF5.
-/
import Derived.Test.YtbljpbmpfmnemaaRows
import Derived.Test.YtbljpbmpfmnemaaGz
import Derived.Deep.RegionHeld3
import Derived.WalkKit
import Derived.ProofKit
import Derived.Below
import Derived.Lib.Hide
import Derived.Outline
import Derived.BigQuiet
import Derived.Deep.QuietTactic
import Derived.Deep.Draws
import Derived.Laws.OwnMore
import Derived.Laws.Rows
import Derived.WalkSpells
import Derived.Deep.RegionWith
namespace Go.Proofs.Ytbljpbmpfmnemaa
open Go.RowKit
set_option linter.unusedVariables false
set_option maxRecDepth 100000 in
set_option maxHeartbeats 1000000 in
theorem szIs_gen (v : Value) (L : List It) (r9 : Int) (w : World) (h : RdG encI w v L) (hm : MaxF L) (p0 : 0 ≤ r9) (p1 : r9 ≤ 1048576) :
    Calls Try.prog 32 #[v, .int .i64 r9] w (GotSz (SzF L) 1048576 w) := by
  by_cases hL : L = []
  · subst hL
    obtain ⟨A, c, rfl, hc⟩ := h.nil
    go_enter Try.func32, Try.ntmps32
    go_wp2
    refine wp_loop_rounds 1 ?_
    rw [rounds_succ]; go_wp2
    go_ret
    exact ⟨_, rfl, p1, fun _ => ⟨by simp, by intro e m; simp at m⟩, Below.refl _ _⟩
  · obtain ⟨b, o, c, rfl, h1, h2, hb, h4⟩ := h.some hL
    unfold maxLen at h2
    have hcells := Lib.hid (fun k (hk : k < L.length) => rdI_cells h4 hk)
    clear h4 hL
    by_cases hbig : r9 < (L.length : Int)
    · go_enter Try.func32, Try.ntmps32
      go_wp2
      go_ret
      exact ⟨-1, rfl, by omega, fun h => absurd h (by omega), Below.refl _ _⟩
    · go_enter Try.func32, Try.ntmps32
      go_wp2
      go_loopw [1, 5] (fun t i wr => ∃ (k : Nat) (r : Int), k ≤ L.length ∧ i = .int .i64 k ∧ t = .int .i64 r ∧ 0 ≤ r ∧ r ≤ 1048576 ∧ Hid (∀ e ∈ L.take k, Sz1F e) ∧ Hid (Below w.heap.size w wr)) (fun _ i _ => L.length - (intOf i).toNat)
      case atStart => exact ⟨0, _, Nat.zero_le _, rfl, rfl, by omega, by omega, Lib.hid (by simp), Lib.hid (Below.refl _ _)⟩
      case round =>
        obtain ⟨k, r, hk, rfl, rfl, r0, r1, hp, hbr⟩ := hrel
        by_cases hlt : k < L.length
        · obtain ⟨c0, c1, c2, c3⟩ := rdI_at hcells.out hb hbr.out hlt
          obtain ⟨f0, f1, f2⟩ := hm _ (List.getElem_mem hlt)
          have hN := fun q => take_mem (p := Sz1F) hlt hp.out q
          obtain ⟨e, he⟩ : ∃ e, L[k] = e := ⟨_, rfl⟩
          rw [he] at c0 c1 c2 c3 f0 f1 f2 hN
          obtain ⟨ky, ti, bo, da⟩ := e
          simp only at c0 c1 c2 c3 f0 f1 f2
          have HN := Lib.hid hN
          have hjj : (k : Int) < (L.length : Int) := by omega
          clear he hN
          go_wp2_with fail
          refine (szI_any ky ti bo da r _ f0 f1 f2 r0 r1).mono ?_
          rintro e w3 ⟨r', rfl, hr1, hr2, hb3⟩
          have hb3 := Lib.hid (below_trans' hbr.out hb3)
          have hr2 := Lib.hid hr2
          by_cases hneg : r' < 0
          · go_wp2
            go_ret
            exact ⟨_, rfl, by omega, fun h => absurd h (by omega), hb3.out⟩
          · have hx := Lib.hid (HN.out (hr2.out (by omega)))
            go_wp2
            go_roundw
            case rel => exact ⟨k + 1, r', by omega, by go_num, rfl, by omega, by omega, hx, hb3⟩
            case measure => simp [intOf]; omega
        · have HR : Hid (SzF L) := Lib.hid ⟨by omega, by have := hp.out; rw [List.take_of_length_le (by omega)] at this; exact this⟩
          go_wp2
          go_ret
          exact ⟨_, rfl, r1, fun _ => HR.out, hbr.out⟩
set_option maxRecDepth 100000 in
set_option maxHeartbeats 4000000 in
theorem markIs_row2 (v : Value) (L : List It) (m B : Nat) (w : World) (hown : OwnF w B v L) (hn : L.length ≤ 1048576) (hm : m ≤ 5000000) :
    Calls Try.prog 35 #[v, .int .i64 m] w (GotMarkF w B v L.length m) := by
  rcases OwnG.form hown with ⟨rfl, rfl⟩ | ⟨g, c, rfl, hg⟩
  · go_enter Try.func35, Try.ntmps35
    go_wp2
    refine wp_loop_rounds 1 ?_
    rw [rounds_succ]; go_wp2
    go_ret
    exact ⟨rfl, hown, grown_refl _ _⟩
  · have hown := Lib.hid hown
    go_enter Try.func35, Try.ntmps35
    go_wp2
    go_loopw [1, 5] (fun t i wr => ∃ (k q : Nat) (M : List It), k ≤ L.length ∧ i = .int .i64 k ∧ t = .int .i64 q ∧ q ≤ 10000000 ∧ Hid (q = m + 4 * k) ∧ M.length = L.length ∧ Hid (M.take k = (markF L.length m).take k) ∧ Hid (OwnF wr B (.slice (some ⟨g, 0, none⟩) L.length c) M) ∧ Hid (w.grownBy wr (some g))) (fun _ i _ => L.length - (intOf i).toNat)
    case atStart => exact ⟨0, m, L, Nat.zero_le _, rfl, rfl, by omega, Lib.hid rfl, rfl, Lib.hid rfl, hown, Lib.hid (grown_refl _ _)⟩
    case round =>
      obtain ⟨k, q, M, hk, rfl, rfl, hq1, hq, hM, hp, hownr, hbr⟩ := hrel
      have hM := Lib.hid hM
      by_cases hlt : k < L.length
      · have hkM : k < M.length := by rw [hM.out]; exact hlt
        have hset := Lib.hid (set_take (L := markF L.length m) (by rw [markF_len]; exact hM.out) (by rw [markF_len]; exact hlt) hp.out ⟨mlT q, mlT (q + 1), mlT (q + 2), ((q + 3 : Nat) : Int)⟩ (by rw [markF_get, hq.out]))
        have hjj : (k : Int) < (L.length : Int) := by omega
        have hq2 : q + 4 ≤ 10000000 := by have := hq.out; omega
        have HQ : Hid (q + 1 + 1 + 1 + 1 = m + 4 * (k + 1)) := Lib.hid (by have := hq.out; omega)
        obtain ⟨x, hx⟩ : ∃ x, M[k] = x := ⟨_, rfl⟩
        obtain ⟨x0, x1, x2, x3⟩ := x
        go_wp2_with fail
        refine (mkl_bigI _ q _ rfl (by omega)).mono ?_
        rintro e w3 ⟨rfl, hb3⟩
        have hown3 := Lib.hid (OwnG.grown hownr.out hb3)
        have hbw3 := Lib.hid (row_trans hbr.out hb3)
        obtain ⟨a0, a1, a2⟩ := OwnG.cellAt encI_len hown3.out k hkM 0 (by omega) (k * 4) rfl
        rw [hx, show (encI ⟨x0, x1, x2, x3⟩)[0]? = some (.string x0) from rfl] at a0
        have S1 := Lib.hid (OwnG.store encI_len hown3.out k hkM 0 (by omega) (.string (mlT q)) ⟨mlT q, x1, x2, x3⟩ (by rw [hx]; rfl) (k * 4) rfl).1
        have G1 := Lib.hid (row_set hbw3.out (k * 4) (.string (mlT q)))
        clear hb3
        go_wp2_with fail
        refine (mkl_bigI _ (q + 1) _ (by omega) (by omega)).mono ?_
        rintro e w5 ⟨rfl, hb5⟩
        have hown5 := Lib.hid (OwnG.grown S1.out hb5)
        have hbw5 := Lib.hid (row_trans G1.out hb5)
        clear hb5 a0 a1 a2
        have hk2 : k < (M.set k ⟨mlT q, x1, x2, x3⟩).length := by rw [List.length_set]; exact hkM
        obtain ⟨a0, a1, a2⟩ := OwnG.cellAt encI_len hown5.out k hk2 1 (by omega) (k * 4 + 1) rfl
        rw [List.getElem_set_self, show (encI ⟨mlT q, x1, x2, x3⟩)[1]? = some (.string x1) from rfl] at a0
        have s2 := (OwnG.store encI_len hown5.out k hk2 1 (by omega) (.string (mlT (q + 1))) ⟨mlT q, mlT (q + 1), x2, x3⟩ (by rw [List.getElem_set_self]; rfl) (k * 4 + 1) rfl).1
        rw [List.set_set] at s2
        have S2 := Lib.hid s2
        have G2 := Lib.hid (row_set hbw5.out (k * 4 + 1) (.string (mlT (q + 1))))
        clear s2
        go_wp2_with fail
        refine (mkl_bigI _ (q + 2) _ (by omega) (by omega)).mono ?_
        rintro e w7 ⟨rfl, hb7⟩
        have hown7 := Lib.hid (OwnG.grown S2.out hb7)
        have hbw7 := Lib.hid (row_trans G2.out hb7)
        clear hb7 a0 a1 a2
        have hk3 : k < (M.set k ⟨mlT q, mlT (q + 1), x2, x3⟩).length := by rw [List.length_set]; exact hkM
        obtain ⟨a0, a1, a2⟩ := OwnG.cellAt encI_len hown7.out k hk3 2 (by omega) (k * 4 + 2) rfl
        rw [List.getElem_set_self, show (encI ⟨mlT q, mlT (q + 1), x2, x3⟩)[2]? = some (.string x2) from rfl] at a0
        obtain ⟨b0, b1, _⟩ := OwnG.cellAt encI_len hown7.out k hk3 3 (by omega) (k * 4 + 3) rfl
        rw [List.getElem_set_self, show (encI ⟨mlT q, mlT (q + 1), x2, x3⟩)[3]? = some (.int .i64 x3) from rfl] at b0
        have s3 := (OwnG.store encI_len hown7.out k hk3 2 (by omega) (.string (mlT (q + 2))) ⟨mlT q, mlT (q + 1), mlT (q + 2), x3⟩ (by rw [List.getElem_set_self]; rfl) (k * 4 + 2) rfl).1
        have s4 := (OwnG.store encI_len s3 k (by simpa using hkM) 3 (by omega) (.int .i64 ((q + 3 : Nat) : Int)) ⟨mlT q, mlT (q + 1), mlT (q + 2), ((q + 3 : Nat) : Int)⟩ (by rw [List.getElem_set_self]; rfl) (k * 4 + 3) rfl).1
        rw [List.set_set, List.set_set] at s4
        have e3 : ((q + 3 : Nat) : Int) = (q : Int) + 1 + 1 + 1 := by omega
        have S4 := Lib.hid s4
        have G4 := Lib.hid (row_set (row_set hbw7.out (k * 4 + 2) (.string (mlT (q + 2)))) (k * 4 + 3) (.int .i64 ((q + 3 : Nat) : Int)))
        rw [e3] at S4 G4 hset
        clear s3 s4 e3
        go_wp2
        go_roundw
        case rel => exact ⟨k + 1, q + 1 + 1 + 1 + 1, _, by omega, by go_num, by go_num, hq2, HQ, by rw [List.length_set]; exact hM.out, hset, by first | exact S4 | (have := S4; simpa [Int.add_assoc] using this), by first | exact G4 | (have := G4; simpa [Int.add_assoc] using this)⟩
        case measure => simp [intOf]; omega
      · have HR : Hid (M = markF L.length m) := Lib.hid (by have := hp.out; rw [List.take_of_length_le (by have := hM.out; omega), List.take_of_length_le (by rw [markF_len]; omega)] at this; exact this)
        have hqn : q = m + 4 * L.length := by have := hq.out; omega
        have hqn := Lib.hid hqn
        go_wp2
        go_ret
        exact ⟨by rw [← hqn.out]; rfl, by rw [← HR.out]; exact hownr.out, hbr.out⟩
end Go.Proofs.Ytbljpbmpfmnemaa
