/-
  The verifier's own text: LawE2.
-/
import Derived.Test.YtoiglenodiomhaaRows
import Derived.Test.YtoiglenodiomhaaLawE
import Derived.Deep.RegionHeld3
import Derived.WalkKit
import Derived.ProofKit
import Derived.Below
import Derived.Lib.Hide
import Derived.Outline
import Derived.BigQuiet
import Derived.Deep.QuietTactic
import Derived.Deep.Draws
import Derived.Laws.OwnMore
import Derived.Laws.Rows
import Derived.WalkSpells
import Derived.Deep.RegionWith
namespace Go.Proofs.Ytoiglenodiomhaa
open Go.RowKit
set_option linter.unusedVariables false
def GotOwnE (L : EL) (w : World) (e : Ending) (w' : World) : Prop := ∃ v : Value, e = .returned v ∧ OwnE w' w.heap.size v L ∧ Below w.heap.size w w'
theorem flat_rep {α : Type} {enc : α → List Value} (y : α) (n : Nat) : (List.replicate n y).flatMap enc = (List.replicate n (enc y)).flatten := by
  induction n with
  | zero => rfl
  | succ n ih => rw [List.replicate_succ, List.flatMap_cons, ih, List.replicate_succ, List.flatten_cons]
theorem made_two (a b : Value) (n : Nat) : (madeCells #[a, b] (n * 2)).toList = (List.replicate n [a, b]).flatten := by
  induction n with
  | zero => simp [madeCells]
  | succ n ih =>
    rw [List.replicate_succ', List.flatten_append, ← ih]
    unfold madeCells
    rw [Nat.succ_mul, Array.range_succ, Array.range_succ]
    simp
theorem full_elems {ops : Array Oper} {rest : List Oper} {o : Oper} {a : Act} {Q : Exit → Act → World → Prop} {w : World} (hg : o.guard = none) (l c : Operand) (hop : o.op = Op.makeSlice 23 l c)
    (n : Nat) (hl : a.eval l = .int .i64 n) (hc : a.eval c = .int .i64 n) (hn : n ≤ 1073741824)
    (hK : ∀ w', OwnE w' w.heap.size (.slice (some ⟨w.heap.size, 0, none⟩) n n) (List.replicate n (⟨#[]⟩, ⟨#[]⟩)) → Below w.heap.size w w' → wpList Try.prog ops Q rest (a.put o.dst (.slice (some ⟨w.heap.size, 0, none⟩) n n)) w') : wpList Try.prog ops Q (o :: rest) a w := by
  obtain ⟨i0, hi, hz0, hz1, hz2⟩ := info_parts infoE
  refine wpList_make_full w hg l c 23 hop w.heap.size 27 i0 _ 2 Try.underlying23 hi hz0 hz1 .i64 .i64 n n n hl hc rfl rfl ?_ ?_ (Nat.le_refl _) ?_
  · rw [hz2]; omega
  · unfold maxLen; omega
  · intro w' h1 h2
    refine hK w' ?_ ((Below.refl _ _).grown h2 (Nat.le_refl _) (fun k hk => by cases hk))
    unfold OwnE OwnG
    rw [List.length_replicate, flat_rep]
    have e : (madeCells (Value.agg #[Value.string ⟨#[]⟩, Value.string ⟨#[]⟩]).cells (n * 2)).toList = (List.replicate n (encE (⟨#[]⟩, ⟨#[]⟩))).flatten := made_two _ _ n
    rw [← e]; exact h1
set_option maxHeartbeats 1000000 in
theorem toEs_any (v : Value) (L : EL) (w : World) (h : RdG encE w v L) (hn : L.length ≤ 1048576) :
    Calls Try.prog 26 #[v] w (GotOwnE L w) := by
  by_cases hL : L = []
  · subst hL
    obtain ⟨A, c, rfl, hc⟩ := h.nil
    go_enter Try.func26, Try.ntmps26
    go_wp2_with (at_make; refine full_elems rfl _ _ rfl 0 rfl rfl (by omega) ?_; intro w1 hown0 hb0)
    refine wp_loop_rounds 1 ?_
    rw [rounds_succ]; go_wp2
    go_ret
    exact ⟨_, rfl, hown0, hb0⟩
  · obtain ⟨b, o, c, rfl, h1, h2, hb, h4⟩ := h.some hL
    unfold maxLen at h2
    have hcells := Lib.hid (fun k (hk : k < L.length) => rdE_cells h4 hk)
    clear h4 hL
    go_enter Try.func26, Try.ntmps26
    go_wp2_with (at_make; refine full_elems rfl _ _ rfl L.length rfl rfl (by omega) ?_; intro w1 hown0 hb0)
    have hown0 := Lib.hid hown0
    have hb0 := Lib.hid hb0
    go_loopw [4] (fun i wr => ∃ (k : Nat) (M : EL), k ≤ L.length ∧ i = .int .i64 k ∧ M.length = L.length ∧ Hid (M.take k = L.take k) ∧ Hid (OwnE wr w.heap.size (.slice (some ⟨w.heap.size, 0, none⟩) L.length L.length) M) ∧ Hid (Below w.heap.size w wr)) (fun i _ => L.length - (intOf i).toNat)
    case atStart => exact ⟨0, List.replicate L.length (⟨#[]⟩, ⟨#[]⟩), Nat.zero_le _, rfl, by simp, Lib.hid rfl, hown0, hb0⟩
    case round =>
      obtain ⟨k, M, hk, rfl, hM, hp, hown, hbr⟩ := hrel
      have hM := Lib.hid hM
      by_cases hlt : k < L.length
      · obtain ⟨c0, c1⟩ := hcells.out k hlt
        rw [← hbr.out.cell (p := ⟨b, o + k * 2, none⟩) hb] at c0
        rw [← hbr.out.cell (p := ⟨b, o + k * 2 + 1, none⟩) hb] at c1
        have hset := Lib.hid (set_take hM.out hlt hp.out L[k] rfl)
        obtain ⟨e, he⟩ : ∃ e, L[k] = e := ⟨_, rfl⟩
        rw [he] at c0 c1 hset
        obtain ⟨nm, tx⟩ := e
        simp only at c0 c1
        have hjj : (k : Int) < (L.length : Int) := by omega
        clear he
        go_wp2_with fail
        refine (toE_any nm tx _).mono ?_
        rintro e w3 ⟨rfl, hb3⟩
        have hown3 := Lib.hid (OwnG.grown hown.out hb3)
        have hbw3 := Lib.hid (below_trans' hbr.out hb3)
        have hkM : k < M.length := by rw [hM.out]; exact hlt
        obtain ⟨a0, a1, a2⟩ := OwnG.cellAt encE_len hown3.out k hkM 0 (by omega) (k * 2) rfl
        obtain ⟨b0, b1, _⟩ := OwnG.cellAt encE_len hown3.out k hkM 1 (by omega) (k * 2 + 1) rfl
        obtain ⟨s1, g1⟩ := OwnG.store encE_len hown3.out k hkM 0 (by omega) (.string nm) (nm, M[k].2) rfl (k * 2) rfl
        obtain ⟨s2, g2⟩ := OwnG.store encE_len s1 k (by simpa using hkM) 1 (by omega) (.string tx) (nm, tx) (by simp [encE]) (k * 2 + 1) rfl
        rw [List.set_set] at s2
        have S2 := Lib.hid s2
        have G2 := Lib.hid ((hbw3.out.setCell (p := ⟨w.heap.size, k * 2, none⟩) (Nat.le_refl _) (.string nm)).setCell (p := ⟨w.heap.size, k * 2 + 1, none⟩) (Nat.le_refl _) (.string tx))
        have e0 : (encE M[k])[0]? = some (.string M[k].1) := rfl
        have e1 : (encE M[k])[1]? = some (.string M[k].2) := rfl
        rw [e0] at a0
        rw [e1] at b0
        clear s1 g1 s2 g2 e0 e1
        obtain ⟨x0, hx0⟩ : ∃ x, M[k].1 = x := ⟨_, rfl⟩
        obtain ⟨x1, hx1⟩ : ∃ x, M[k].2 = x := ⟨_, rfl⟩
        rw [hx0] at a0
        rw [hx1] at b0
        clear hx0 hx1
        go_wp2
        go_roundw
        case rel => exact ⟨k + 1, M.set k (nm, tx), by omega, by go_num, by rw [List.length_set]; exact hM.out, hset, S2, G2⟩
        case measure => simp [intOf]; omega
      · have HR : Hid (M = L) := Lib.hid (by have := hp.out; rw [List.take_of_length_le (by omega), List.take_of_length_le (by have := hM.out; omega)] at this; exact this)
        go_wp2
        go_ret
        exact ⟨.slice (some ⟨w.heap.size, 0, none⟩) L.length L.length, rfl, by have := hown.out; rw [HR.out] at this; exact this, hbr.out⟩
theorem keepQ {W w2 w3 : World} {b b' i i' j j' : Nat} {x y z t : Value} (hb : b < W.heap.size) (hb' : b' < W.heap.size) (h : Below w2.heap.size w2 w3) (h0 : w2.cell? ⟨b, i, none⟩ = some x) (h1 : w2.cell? ⟨b, j, none⟩ = some y) (h2 : w2.cell? ⟨b', i', none⟩ = some z) (h3 : w2.cell? ⟨b', j', none⟩ = some t) (h4 : Hid (Below W.heap.size W w2)) :
    w3.cell? ⟨b, i, none⟩ = some x ∧ w3.cell? ⟨b, j, none⟩ = some y ∧ w3.cell? ⟨b', i', none⟩ = some z ∧ w3.cell? ⟨b', j', none⟩ = some t ∧ Hid (Below W.heap.size W w3) := by
  have hs := h4.out.size
  have q : ∀ (g k : Nat) (u : Value), g < W.heap.size → w2.cell? ⟨g, k, none⟩ = some u → w3.cell? ⟨g, k, none⟩ = some u := fun g k u hg e => by rw [h.cell (p := ⟨g, k, none⟩) (Nat.lt_of_lt_of_le hg hs)]; exact e
  exact ⟨q _ _ _ hb h0, q _ _ _ hb h1, q _ _ _ hb' h2, q _ _ _ hb' h3, Lib.hid (below_trans' h4.out h)⟩
set_option maxHeartbeats 1000000 in
theorem eqEs_any (v v' : Value) (L : EL) (w : World) (h : RdG encE w v L) (h' : RdG encE w v' L) :
    Calls Try.prog 27 #[v, v'] w fun e w' => e = .returned (.bool true) ∧ Below w.heap.size w w' := by
  by_cases hL : L = []
  · subst hL
    obtain ⟨A, c, rfl, hc⟩ := h.nil
    obtain ⟨A', c', rfl, hc'⟩ := h'.nil
    go_enter Try.func27, Try.ntmps27
    go_wp2
    refine wp_loop_rounds 1 ?_
    rw [rounds_succ]; go_wp2
    go_ret
    exact ⟨rfl, Below.refl _ _⟩
  · obtain ⟨b, o, c, rfl, h1, h2, hb, h4⟩ := h.some hL
    obtain ⟨b', o', c', rfl, h1', h2', hb', h4'⟩ := h'.some hL
    unfold maxLen at h2 h2'
    have hcells := Lib.hid (fun k (hk : k < L.length) => rdE_cells h4 hk)
    have hcells' := Lib.hid (fun k (hk : k < L.length) => rdE_cells h4' hk)
    clear h4 h4' hL
    have t0 : ((L.length : Int) == (L.length : Int)) = true := by simp
    go_enter Try.func27, Try.ntmps27
    go_wp2
    go_loopw [5] (fun i wr => ∃ k : Nat, k ≤ L.length ∧ i = .int .i64 k ∧ Hid (Below w.heap.size w wr)) (fun i _ => L.length - (intOf i).toNat)
    case atStart => exact ⟨0, Nat.zero_le _, rfl, Lib.hid (Below.refl _ _)⟩
    case round =>
      obtain ⟨k, hk, rfl, hbr⟩ := hrel
      by_cases hlt : k < L.length
      · obtain ⟨c0, c1⟩ := hcells.out k hlt
        obtain ⟨d0, d1⟩ := hcells'.out k hlt
        rw [← hbr.out.cell (p := ⟨b, o + k * 2, none⟩) hb] at c0
        rw [← hbr.out.cell (p := ⟨b, o + k * 2 + 1, none⟩) hb] at c1
        rw [← hbr.out.cell (p := ⟨b', o' + k * 2, none⟩) hb'] at d0
        rw [← hbr.out.cell (p := ⟨b', o' + k * 2 + 1, none⟩) hb'] at d1
        obtain ⟨e, he⟩ : ∃ e, L[k] = e := ⟨_, rfl⟩
        rw [he] at c0 c1 d0 d1
        obtain ⟨nm, tx⟩ := e
        simp only at c0 c1 d0 d1
        have hj0 : (0 : Int) ≤ (k : Int) := by omega
        have hjj : (k : Int) < (L.length : Int) := by omega
        clear he
        have hbd : Hid (Below w.heap.size w wr.drew) := Lib.hid (Below.drew hbr.out)
        go_wp2
        go_region_held3 (fun w' => w'.cell? ⟨b, o + k * 2, none⟩ = some (.string nm) ∧ w'.cell? ⟨b, o + k * 2 + 1, none⟩ = some (.string tx) ∧ w'.cell? ⟨b', o' + k * 2, none⟩ = some (.string nm) ∧ w'.cell? ⟨b', o' + k * 2 + 1, none⟩ = some (.string tx) ∧ Hid (Below w.heap.size w w'))
          (first | exact ⟨c0, c1, d0, d1, hbd⟩ | exact hS3.out)
          (first | (go_at_call 46; refine (eqE_any nm tx _).mono ?_; rintro e w3 ⟨rfl, hb3⟩; have hS3 := Lib.hid (keepQ (W := w) (i := o + k * 2) (j := o + k * 2 + 1) (i' := o' + k * 2) (j' := o' + k * 2 + 1) (x := .string nm) (y := .string tx) (z := .string nm) (t := .string tx) hb hb' hb3 (by assumption) (by assumption) (by assumption) (by assumption) (by assumption))))
        go_split_ands
        rename Hid (Below w.heap.size w _) => hS
        go_wp2
        go_roundw
        case rel => exact ⟨k + 1, by omega, by go_num, hS⟩
        case measure => simp [intOf]; omega
      · go_wp2
        go_ret
        exact ⟨rfl, hbr.out⟩
set_option maxHeartbeats 1000000 in
theorem sameE_any (v v' : Value) (L : EL) (w : World) (h : RdG encE w v L) (h' : RdG encE w v' L) :
    Calls Try.prog 19 #[v, v'] w (Quiet (.bool true) w) := by
  by_cases hL : L = []
  · subst hL
    obtain ⟨A, c, rfl, hc⟩ := h.nil
    obtain ⟨A', c', rfl, hc'⟩ := h'.nil
    go_enter Try.func19, Try.ntmps19
    go_wp2
    refine wp_loop_rounds 1 ?_
    rw [rounds_succ]; go_wp2
    go_ret
    exact ⟨rfl, 0, rfl⟩
  · obtain ⟨b, o, c, rfl, h1, h2, hb, h4⟩ := h.some hL
    obtain ⟨b', o', c', rfl, h1', h2', hb', h4'⟩ := h'.some hL
    unfold maxLen at h2 h2'
    have hcells := Lib.hid (fun k (hk : k < L.length) => rdE_cells h4 hk)
    have hcells' := Lib.hid (fun k (hk : k < L.length) => rdE_cells h4' hk)
    clear h4 h4' hL
    have t0 : ((L.length : Int) == (L.length : Int)) = true := by simp
    go_enter Try.func19, Try.ntmps19
    go_wp2
    go_loopw [5] (fun i wr => ∃ k : Nat, k ≤ L.length ∧ i = .int .i64 k ∧ Hid (∃ m, wr = w.drewN m)) (fun i _ => L.length - (intOf i).toNat)
    case atStart => exact ⟨0, Nat.zero_le _, rfl, Lib.hid ⟨0, rfl⟩⟩
    case round =>
      obtain ⟨k, hk, rfl, hw⟩ := hrel
      by_cases hlt : k < L.length
      · have hcw : wr.cell? ⟨b, o + k * 2, none⟩ = some (.string L[k].1) ∧ wr.cell? ⟨b, o + k * 2 + 1, none⟩ = some (.string L[k].2) := by
          obtain ⟨m, hm⟩ := hw.out; rw [hm]; exact hcells.out k hlt
        have hdw : wr.cell? ⟨b', o' + k * 2, none⟩ = some (.string L[k].1) ∧ wr.cell? ⟨b', o' + k * 2 + 1, none⟩ = some (.string L[k].2) := by
          obtain ⟨m, hm⟩ := hw.out; rw [hm]; exact hcells'.out k hlt
        obtain ⟨c0, c1⟩ := hcw
        obtain ⟨d0, d1⟩ := hdw
        obtain ⟨e, he⟩ : ∃ e, L[k] = e := ⟨_, rfl⟩
        rw [he] at c0 c1 d0 d1
        obtain ⟨nm, tx⟩ := e
        simp only at c0 c1 d0 d1
        have hj0 : (0 : Int) ≤ (k : Int) := by omega
        have hjj : (k : Int) < (L.length : Int) := by omega
        have q1 := str_same (a := nm) (b := nm) rfl
        have q2 := str_same (a := tx) (b := tx) rfl
        clear he
        go_wp2
        go_quiet (fail)
        go_wp2
        go_roundw
        case rel => exact ⟨k + 1, by omega, by go_num, Lib.hid (by obtain ⟨m, hm⟩ := hw.out; exact ⟨_, by rw [hm, drewN_add]⟩)⟩
        case measure => simp [intOf]; omega
      · go_wp2
        go_ret
        exact ⟨rfl, hw.out⟩
end Go.Proofs.Ytoiglenodiomhaa
