/-
  The verifier's own text: LawE3.
-/
import Derived.Test.YtoiglenodiomhaaRows
import Derived.Test.YtoiglenodiomhaaLawE2
import Derived.Deep.RegionHeld3
import Derived.WalkKit
import Derived.ProofKit
import Derived.Below
import Derived.Lib.Hide
import Derived.Outline
import Derived.BigQuiet
import Derived.Deep.QuietTactic
import Derived.Deep.Draws
import Derived.Laws.OwnMore
import Derived.Laws.Rows
import Derived.WalkSpells
import Derived.Deep.RegionWith
namespace Go.Proofs.Ytoiglenodiomhaa
open Go.RowKit
set_option linter.unusedVariables false
/-- elements that were marked -/
def markE (n m : Nat) : EL := (List.range n).map fun i => (mkT (m + 2 * i), mkT (m + 2 * i + 1))
theorem markE_len (n m : Nat) : (markE n m).length = n := by simp [markE]
theorem markE_get (n m i : Nat) (h : i < (markE n m).length) : (markE n m)[i] = (mkT (m + 2 * i), mkT (m + 2 * i + 1)) := by simp [markE]
def GotMarkE (W : World) (v : Value) (n m : Nat) (e : Ending) (w' : World) : Prop := e = .returned (.int .i64 ((m + 2 * n : Nat) : Int)) ∧ OwnE w' W.heap.size v (markE n m) ∧ Below W.heap.size W w'
set_option maxHeartbeats 1000000 in
theorem markEs_any (v : Value) (L : EL) (m : Nat) (W w : World) (hown : OwnE w W.heap.size v L) (hb : Below W.heap.size W w) (hn : L.length ≤ 100) (hm : m ≤ 1000) :
    Calls Try.prog 28 #[v, .int .i64 m] w (GotMarkE W v L.length m) := by
  rcases OwnG.form hown with ⟨rfl, rfl⟩ | ⟨g, c, rfl, hg⟩
  · go_enter Try.func28, Try.ntmps28
    go_wp2
    refine wp_loop_rounds 1 ?_
    rw [rounds_succ]; go_wp2
    go_ret
    exact ⟨rfl, hown, hb⟩
  · have hown := Lib.hid hown
    have hb := Lib.hid hb
    go_enter Try.func28, Try.ntmps28
    go_wp2
    go_loopw [1, 5] (fun t i wr => ∃ (k q : Nat) (M : EL), k ≤ L.length ∧ i = .int .i64 k ∧ t = .int .i64 q ∧ q ≤ 1200 ∧ Hid (q = m + 2 * k) ∧ M.length = L.length ∧ Hid (M.take k = (markE L.length m).take k) ∧ Hid (OwnE wr W.heap.size (.slice (some ⟨g, 0, none⟩) L.length c) M) ∧ Hid (Below W.heap.size W wr)) (fun _ i _ => L.length - (intOf i).toNat)
    case atStart => exact ⟨0, m, L, Nat.zero_le _, rfl, rfl, by omega, Lib.hid rfl, rfl, Lib.hid rfl, hown, hb⟩
    case round =>
      obtain ⟨k, q, M, hk, rfl, rfl, hq1, hq, hM, hp, hownr, hbr⟩ := hrel
      have hM := Lib.hid hM
      by_cases hlt : k < L.length
      · have hkM : k < M.length := by rw [hM.out]; exact hlt
        have hset := Lib.hid (set_take (L := markE L.length m) (by rw [markE_len]; exact hM.out) (by rw [markE_len]; exact hlt) hp.out (mkT q, mkT (q + 1)) (by rw [markE_get, hq.out]))
        have hjj : (k : Int) < (L.length : Int) := by omega
        have hq2 : q + 1 ≤ 1200 := by have := hq.out; omega
        have hq3 : q + 2 ≤ 1200 := by have := hq.out; omega
        have HQ : Hid (q + 1 + 1 = m + 2 * (k + 1)) := Lib.hid (by have := hq.out; omega)
        go_wp2_with fail
        refine (mark_int _ q _ rfl (by omega)).mono ?_
        rintro e w3 ⟨rfl, hb3⟩
        have hown3 := Lib.hid (OwnG.grown hownr.out hb3)
        have hbw3 := Lib.hid (below_trans' hbr.out hb3)
        clear hb3
        obtain ⟨a0, a1, a2⟩ := OwnG.cellAt encE_len hown3.out k hkM 0 (by omega) (k * 2) rfl
        rw [show (encE M[k])[0]? = some (.string M[k].1) from rfl] at a0
        have S1 := Lib.hid (OwnG.store encE_len hown3.out k hkM 0 (by omega) (.string (mkT q)) (mkT q, M[k].2) rfl (k * 2) rfl).1
        have G1 := Lib.hid (hbw3.out.setCell (p := ⟨g, k * 2, none⟩) hg (.string (mkT q)))
        obtain ⟨x0, hx0⟩ : ∃ x, M[k].1 = x := ⟨_, rfl⟩
        rw [hx0] at a0
        obtain ⟨x1, hx1⟩ : ∃ x, M[k].2 = x := ⟨_, rfl⟩
        rw [hx1] at S1
        clear hx0 hx1
        go_wp2_with fail
        refine (mark_int _ (q + 1) _ (by omega) (by omega)).mono ?_
        rintro e w5 ⟨rfl, hb5⟩
        have hown5 := Lib.hid (OwnG.grown S1.out hb5)
        have hbw5 := Lib.hid (below_trans' G1.out hb5)
        clear hb5 a0 a1 a2
        have hkM2 : k < (M.set k (mkT q, x1)).length := by rw [List.length_set]; exact hkM
        obtain ⟨a0, a1, a2⟩ := OwnG.cellAt encE_len hown5.out k hkM2 1 (by omega) (k * 2 + 1) rfl
        rw [List.getElem_set_self, show (encE (mkT q, x1))[1]? = some (.string x1) from rfl] at a0
        have s2 := (OwnG.store encE_len hown5.out k hkM2 1 (by omega) (.string (mkT (q + 1))) (mkT q, mkT (q + 1)) (by rw [List.getElem_set_self]; rfl) (k * 2 + 1) rfl).1
        rw [List.set_set] at s2
        have S2 := Lib.hid s2
        have G2 := Lib.hid (hbw5.out.setCell (p := ⟨g, k * 2 + 1, none⟩) hg (.string (mkT (q + 1))))
        clear s2
        go_wp2
        go_roundw
        case rel => exact ⟨k + 1, q + 1 + 1, M.set k (mkT q, mkT (q + 1)), by omega, by go_num, by go_num, hq3, HQ, by rw [List.length_set]; exact hM.out, hset, S2, G2⟩
        case measure => simp [intOf]; omega
      · have HR : Hid (M = markE L.length m) := Lib.hid (by have := hp.out; rw [List.take_of_length_le (by have := hM.out; omega), List.take_of_length_le (by rw [markE_len]; omega)] at this; exact this)
        have hqn : q = m + 2 * L.length := by have := hq.out; omega
        have hqn := Lib.hid hqn
        go_wp2
        go_ret
        exact ⟨by rw [← hqn.out]; rfl, by rw [← HR.out]; exact hownr.out, hbr.out⟩
theorem keep2 {W w2 w3 : World} {b i j : Nat} {x y : Value} (hb : b < W.heap.size) (h : Below w2.heap.size w2 w3) (h0 : w2.cell? ⟨b, i, none⟩ = some x) (h1 : w2.cell? ⟨b, j, none⟩ = some y) (h4 : Hid (Below W.heap.size W w2)) :
    w3.cell? ⟨b, i, none⟩ = some x ∧ w3.cell? ⟨b, j, none⟩ = some y ∧ Hid (Below W.heap.size W w3) := by
  have hs := h4.out.size
  have q : ∀ (g k : Nat) (u : Value), g < W.heap.size → w2.cell? ⟨g, k, none⟩ = some u → w3.cell? ⟨g, k, none⟩ = some u := fun g k u hg e => by rw [h.cell (p := ⟨g, k, none⟩) (Nat.lt_of_lt_of_le hg hs)]; exact e
  exact ⟨q _ _ _ hb h0, q _ _ _ hb h1, Lib.hid (below_trans' h4.out h)⟩
set_option maxHeartbeats 1000000 in
theorem heldEs_any (v : Value) (n m : Nat) (w : World) (h : RdG encE w v (markE n m)) (hn : n ≤ 100) (hm : m ≤ 1000) :
    Calls Try.prog 29 #[v, .int .i64 m] w fun e w' => e = .returned (.int .i64 ((m + 2 * n : Nat) : Int)) ∧ Below w.heap.size w w' := by
  by_cases h0 : n = 0
  · subst h0
    obtain ⟨A, c, rfl, hc⟩ := h.nil
    go_enter Try.func29, Try.ntmps29
    go_wp2
    refine wp_loop_rounds 1 ?_
    rw [rounds_succ]; go_wp2
    go_ret
    exact ⟨rfl, Below.refl _ _⟩
  · obtain ⟨b, o, c, rfl, h1, h2, hb, h4⟩ := h.some (fun e => h0 (by rw [← markE_len n m, e]; rfl))
    rw [markE_len] at h1
    rw [markE_len]
    unfold maxLen at h2
    have hcells := Lib.hid (fun k (hk : k < (markE n m).length) => rdE_cells h4 hk)
    clear h4 h h0
    go_enter Try.func29, Try.ntmps29
    go_wp2
    go_loopw [1, 5] (fun t i wr => ∃ (k q : Nat), k ≤ n ∧ i = .int .i64 k ∧ t = .int .i64 q ∧ q ≤ 1200 ∧ Hid (q = m + 2 * k) ∧ Hid (Below w.heap.size w wr)) (fun _ i _ => n - (intOf i).toNat)
    case atStart => exact ⟨0, m, Nat.zero_le _, rfl, rfl, by omega, Lib.hid rfl, Lib.hid (Below.refl _ _)⟩
    case round =>
      obtain ⟨k, q, hk, rfl, rfl, hq1, hq, hbr⟩ := hrel
      by_cases hlt : k < n
      · obtain ⟨c0, c1⟩ := hcells.out k (by rw [markE_len]; exact hlt)
        rw [← hbr.out.cell (p := ⟨b, o + k * 2, none⟩) hb] at c0
        rw [← hbr.out.cell (p := ⟨b, o + k * 2 + 1, none⟩) hb] at c1
        rw [markE_get, ← hq.out] at c0 c1
        simp only at c0 c1
        have hj0 : (0 : Int) ≤ (k : Int) := by omega
        have hjj : (k : Int) < (n : Int) := by omega
        have hq2 : q + 1 ≤ 1200 := by have := hq.out; omega
        have hq3 : q + 2 ≤ 1200 := by have := hq.out; omega
        have HQ : Hid (q + 1 + 1 = m + 2 * (k + 1)) := Lib.hid (by have := hq.out; omega)
        have q1 := str_same (a := mkT q) (b := mkT q) rfl
        have q2 := str_same (a := mkT (q + 1)) (b := mkT (q + 1)) rfl
        have hbd : Hid (Below w.heap.size w wr.drew) := Lib.hid (Below.drew hbr.out)
        go_wp2
        go_region_held3 (fun w' => w'.cell? ⟨b, o + k * 2, none⟩ = some (.string (mkT q)) ∧ w'.cell? ⟨b, o + k * 2 + 1, none⟩ = some (.string (mkT (q + 1))) ∧ Hid (Below w.heap.size w w'))
          (first | exact ⟨c0, c1, hbd⟩ | exact hS3.out)
          (first | (go_at_call 47; refine (mark_int _ q _ rfl (by omega)).mono ?_; rintro e w3 ⟨rfl, hb3⟩; have hS3 := Lib.hid (keep2 (W := w) (i := o + k * 2) (j := o + k * 2 + 1) (x := .string (mkT q)) (y := .string (mkT (q + 1))) hb hb3 (by assumption) (by assumption) (by assumption))))
        go_split_ands
        rename Hid (Below w.heap.size w _) => hS
        have hS' := Lib.hid (Below.drew hS.out)
        go_wp2
        go_region_held3 (fun w' => w'.cell? ⟨b, o + k * 2, none⟩ = some (.string (mkT q)) ∧ w'.cell? ⟨b, o + k * 2 + 1, none⟩ = some (.string (mkT (q + 1))) ∧ Hid (Below w.heap.size w w'))
          (first | exact ⟨by assumption, by assumption, hS'⟩ | exact hS5.out)
          (first | (go_at_call 47; refine (mark_int _ (q + 1) _ (by omega) (by omega)).mono ?_; rintro e w5 ⟨rfl, hb5⟩; have hS5 := Lib.hid (keep2 (W := w) (i := o + k * 2) (j := o + k * 2 + 1) (x := .string (mkT q)) (y := .string (mkT (q + 1))) hb hb5 (by assumption) (by assumption) (by assumption))))
        go_split_ands
        rename Hid (Below w.heap.size w _) => hT
        go_wp2
        go_roundw
        case rel => exact ⟨k + 1, q + 1 + 1, by omega, by go_num, by go_num, hq3, HQ, hT⟩
        case measure => simp [intOf]; omega
      · have hqn : q = m + 2 * n := by have := hq.out; omega
        have hqn := Lib.hid hqn
        go_wp2
        go_ret
        exact ⟨by rw [← hqn.out]; rfl, hbr.out⟩
end Go.Proofs.Ytoiglenodiomhaa
