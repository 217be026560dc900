/-
  The verifier's own text: LawE LawE2 LawE3 ArgE LawX.
-/
import Derived.Test.YtjdllminjpppbaaRows
import Derived.Test.YtjdllminjpppbaaGi
import Derived.Test.YtjdllminjpppbaaGb
import Derived.Deep.RegionHeld3
import Derived.Test.YtjdllminjpppbaaGl
import Derived.Test.YtjdllminjpppbaaGc
import Derived.WalkKit
import Derived.ProofKit
import Derived.Below
import Derived.Lib.Hide
import Derived.Outline
import Derived.BigQuiet
import Derived.Deep.QuietTactic
import Derived.Deep.Draws
import Derived.Laws.OwnMore
import Derived.Laws.Rows
import Derived.WalkSpells
import Derived.Deep.RegionWith
namespace Go.Proofs.Ytjdllminjpppbaa
open Go.RowKit
set_option linter.unusedVariables false
theorem toE_any (n t : ByteArray) (w : World) :
    Calls Try.prog 45 #[.agg #[.string n, .string t]] w fun e w' => e = .returned (.agg #[.string n, .string t]) ∧ Below w.heap.size w w' := by
  go_enter Try.func45, Try.ntmps45
  go_wp2
  refine bodyPost_ret (v := .agg #[.string n, .string t]) (by simp [results, Try.results45, go_sem]) rfl ⟨rfl, ?_⟩
  repeat (first | exact Below.refl _ _ | refine Below.alloc ?_ (by simp <;> omega) _ | refine Below.setCell ?_ (by simp <;> omega) _)
theorem eqE_any (n t : ByteArray) (w : World) :
    Calls Try.prog 46 #[.agg #[.string n, .string t], .agg #[.string n, .string t]] w fun e w' => e = .returned (.bool true) ∧ Below w.heap.size w w' := by
  have q1 := str_same (a := n) (b := n) rfl
  have q2 := str_same (a := t) (b := t) rfl
  go_enter Try.func46, Try.ntmps46
  go_wp2
  go_ret
  refine ⟨rfl, ?_⟩
  repeat (first | exact Below.refl _ _ | refine Below.alloc ?_ (by simp <;> omega) _ | refine Below.setCell ?_ (by simp <;> omega) _)
theorem szE_any (n t : ByteArray) (left : Int) (w : World) (hn : n.size ≤ maxLen) (ht : t.size ≤ maxLen) (h0 : 0 ≤ left) (h1 : left ≤ 1048576) :
    Calls Try.prog 44 #[.agg #[.string n, .string t], .int .i64 left] w (GotSz (n.size ≤ 1048576 ∧ t.size ≤ 1048576) left w) := by
  unfold maxLen at hn ht
  by_cases a : left - (n.size : Int) < 0
  · go_enter Try.func44, Try.ntmps44
    go_wp2
    go_ret
    exact ⟨-1, rfl, by omega, fun h => absurd h (by omega), (Below.refl _ _).alloc (Nat.le_refl _) _⟩
  · by_cases b : left - (n.size : Int) - (t.size : Int) < 0
    · go_enter Try.func44, Try.ntmps44
      go_wp2
      go_ret
      exact ⟨-1, rfl, by omega, fun h => absurd h (by omega), (Below.refl _ _).alloc (Nat.le_refl _) _⟩
    · go_enter Try.func44, Try.ntmps44
      go_wp2
      go_ret
      exact ⟨_, rfl, by omega, fun h => ⟨by omega, by omega⟩, (Below.refl _ _).alloc (Nat.le_refl _) _⟩
def Sz1 (e : ByteArray × ByteArray) : Prop := e.1.size ≤ 1048576 ∧ e.2.size ≤ 1048576
def SzE (L : EL) : Prop := L.length ≤ 1048576 ∧ ∀ e ∈ L, Sz1 e
def MaxE (L : EL) : Prop := ∀ e ∈ L, e.1.size ≤ maxLen ∧ e.2.size ≤ maxLen
theorem fit_sz {L : EL} (h : SzE L) : FitE L := fun e m => by have := h.2 e m; unfold Sz1 at this; omega
set_option maxRecDepth 100000 in
set_option maxHeartbeats 1000000 in
theorem szEs_any (v : Value) (L : EL) (w : World) (h : RdG encE w v L) (hm : MaxE L) :
    Calls Try.prog 25 #[v, .int .i64 1048576] w (GotSz (SzE L) 1048576 w) := by
  by_cases hL : L = []
  · subst hL
    obtain ⟨A, c, rfl, hc⟩ := h.nil
    go_enter Try.func25, Try.ntmps25
    go_wp2
    refine wp_loop_rounds 1 ?_
    rw [rounds_succ]; go_wp2
    go_ret
    exact ⟨_, rfl, Int.le_refl _, fun _ => ⟨by simp, by intro e m; simp at m⟩, Below.refl _ _⟩
  · obtain ⟨b, o, c, rfl, h1, h2, hb, h4⟩ := h.some hL
    unfold maxLen at h2
    have hcells := Lib.hid (fun k (hk : k < L.length) => rdE_cells h4 hk)
    clear h4 hL
    by_cases hbig : 1048576 < L.length
    · go_enter Try.func25, Try.ntmps25
      go_wp2
      go_ret
      exact ⟨-1, rfl, by omega, fun h => absurd h (by omega), Below.refl _ _⟩
    · go_enter Try.func25, Try.ntmps25
      go_wp2
      go_loopw [1, 5] (fun t i wr => ∃ (k : Nat) (r : Int), k ≤ L.length ∧ i = .int .i64 k ∧ t = .int .i64 r ∧ 0 ≤ r ∧ r ≤ 1048576 ∧ Hid (∀ e ∈ L.take k, Sz1 e) ∧ Hid (Below w.heap.size w wr)) (fun _ i _ => L.length - (intOf i).toNat)
      case atStart => exact ⟨0, _, Nat.zero_le _, rfl, rfl, by omega, by omega, Lib.hid (by simp), Lib.hid (Below.refl _ _)⟩
      case round =>
        obtain ⟨k, r, hk, rfl, rfl, r0, r1, hp, hbr⟩ := hrel
        by_cases hlt : k < L.length
        · obtain ⟨c0, c1⟩ := hcells.out k hlt
          rw [← hbr.out.cell (p := ⟨b, o + k * 2, none⟩) hb] at c0
          rw [← hbr.out.cell (p := ⟨b, o + k * 2 + 1, none⟩) hb] at c1
          obtain ⟨f0, f1⟩ := hm _ (List.getElem_mem hlt)
          have hN := fun q => take_mem (p := Sz1) hlt hp.out q
          obtain ⟨e, he⟩ : ∃ e, L[k] = e := ⟨_, rfl⟩
          rw [he] at c0 c1 f0 f1 hN
          obtain ⟨nm, tx⟩ := e
          simp only at c0 c1 f0 f1
          have HN := Lib.hid hN
          have hjj : (k : Int) < (L.length : Int) := by omega
          clear he hN
          go_wp2_with fail
          refine (szE_any nm tx r _ f0 f1 r0 r1).mono ?_
          rintro e w3 ⟨r', rfl, hr1, hr2, hb3⟩
          have hb3 := Lib.hid (below_trans' hbr.out hb3)
          have hr2 := Lib.hid hr2
          by_cases hneg : r' < 0
          · go_wp2
            go_ret
            exact ⟨_, rfl, by omega, fun h => absurd h (by omega), hb3.out⟩
          · have hx := Lib.hid (HN.out (hr2.out (by omega)))
            go_wp2
            go_roundw
            case rel => exact ⟨k + 1, r', by omega, by go_num, rfl, by omega, by omega, hx, hb3⟩
            case measure => simp [intOf]; omega
        · have HR : Hid (SzE L) := Lib.hid ⟨by omega, by have := hp.out; rw [List.take_of_length_le (by omega)] at this; exact this⟩
          go_wp2
          go_ret
          exact ⟨_, rfl, r1, fun _ => HR.out, hbr.out⟩
def GotOwnE (L : EL) (w : World) (e : Ending) (w' : World) : Prop := ∃ v : Value, e = .returned v ∧ OwnE w' w.heap.size v L ∧ Below w.heap.size w w'
theorem full_elems {ops : Array Oper} {rest : List Oper} {o : Oper} {a : Act} {Q : Exit → Act → World → Prop} {w : World} (hg : o.guard = none) (l c : Operand) (hop : o.op = Op.makeSlice 23 l c)
    (n : Nat) (hl : a.eval l = .int .i64 n) (hc : a.eval c = .int .i64 n) (hn : n ≤ 1073741824)
    (hK : ∀ w', OwnE w' w.heap.size (.slice (some ⟨w.heap.size, 0, none⟩) n n) (List.replicate n (⟨#[]⟩, ⟨#[]⟩)) → Below w.heap.size w w' → wpList Try.prog ops Q rest (a.put o.dst (.slice (some ⟨w.heap.size, 0, none⟩) n n)) w') : wpList Try.prog ops Q (o :: rest) a w := by
  obtain ⟨i0, hi, hz0, hz1, hz2⟩ := info_parts infoE
  refine wpList_make_full w hg l c 23 hop w.heap.size 27 i0 _ 2 Try.underlying23 hi hz0 hz1 .i64 .i64 n n n hl hc rfl rfl ?_ ?_ (Nat.le_refl _) ?_
  · rw [hz2]; omega
  · unfold maxLen; omega
  · intro w' h1 h2
    refine hK w' ?_ ((Below.refl _ _).grown h2 (Nat.le_refl _) (fun k hk => by cases hk))
    unfold OwnE OwnG
    rw [List.length_replicate, flat_rep]
    have e : (madeCells (Value.agg #[Value.string ⟨#[]⟩, Value.string ⟨#[]⟩]).cells (n * 2)).toList = (List.replicate n (encE (⟨#[]⟩, ⟨#[]⟩))).flatten := made_two _ _ n
    rw [← e]; exact h1
set_option maxRecDepth 100000 in
set_option maxHeartbeats 1000000 in
theorem toEs_any (v : Value) (L : EL) (w : World) (h : RdG encE w v L) (hn : L.length ≤ 1048576) :
    Calls Try.prog 26 #[v] w (GotOwnE L w) := by
  by_cases hL : L = []
  · subst hL
    obtain ⟨A, c, rfl, hc⟩ := h.nil
    go_enter Try.func26, Try.ntmps26
    go_wp2_with (at_make; refine full_elems rfl _ _ rfl 0 rfl rfl (by omega) ?_; intro w1 hown0 hb0)
    refine wp_loop_rounds 1 ?_
    rw [rounds_succ]; go_wp2
    go_ret
    exact ⟨_, rfl, hown0, hb0⟩
  · obtain ⟨b, o, c, rfl, h1, h2, hb, h4⟩ := h.some hL
    unfold maxLen at h2
    have hcells := Lib.hid (fun k (hk : k < L.length) => rdE_cells h4 hk)
    clear h4 hL
    go_enter Try.func26, Try.ntmps26
    go_wp2_with (at_make; refine full_elems rfl _ _ rfl L.length rfl rfl (by omega) ?_; intro w1 hown0 hb0)
    have hown0 := Lib.hid hown0
    have hb0 := Lib.hid hb0
    go_loopw [4] (fun i wr => ∃ (k : Nat) (M : EL), k ≤ L.length ∧ i = .int .i64 k ∧ M.length = L.length ∧ Hid (M.take k = L.take k) ∧ Hid (OwnE wr w.heap.size (.slice (some ⟨w.heap.size, 0, none⟩) L.length L.length) M) ∧ Hid (Below w.heap.size w wr)) (fun i _ => L.length - (intOf i).toNat)
    case atStart => exact ⟨0, List.replicate L.length (⟨#[]⟩, ⟨#[]⟩), Nat.zero_le _, rfl, by simp, Lib.hid rfl, hown0, hb0⟩
    case round =>
      obtain ⟨k, M, hk, rfl, hM, hp, hown, hbr⟩ := hrel
      have hM := Lib.hid hM
      by_cases hlt : k < L.length
      · obtain ⟨c0, c1⟩ := hcells.out k hlt
        rw [← hbr.out.cell (p := ⟨b, o + k * 2, none⟩) hb] at c0
        rw [← hbr.out.cell (p := ⟨b, o + k * 2 + 1, none⟩) hb] at c1
        have hset := Lib.hid (set_take hM.out hlt hp.out L[k] rfl)
        obtain ⟨e, he⟩ : ∃ e, L[k] = e := ⟨_, rfl⟩
        rw [he] at c0 c1 hset
        obtain ⟨nm, tx⟩ := e
        simp only at c0 c1
        have hjj : (k : Int) < (L.length : Int) := by omega
        clear he
        go_wp2_with fail
        refine (toE_any nm tx _).mono ?_
        rintro e w3 ⟨rfl, hb3⟩
        have hown3 := Lib.hid (OwnG.grown hown.out hb3)
        have hbw3 := Lib.hid (below_trans' hbr.out hb3)
        have hkM : k < M.length := by rw [hM.out]; exact hlt
        obtain ⟨a0, a1, a2⟩ := OwnG.cellAt encE_len hown3.out k hkM 0 (by omega) (k * 2) rfl
        obtain ⟨b0, b1, _⟩ := OwnG.cellAt encE_len hown3.out k hkM 1 (by omega) (k * 2 + 1) rfl
        obtain ⟨s1, g1⟩ := OwnG.store encE_len hown3.out k hkM 0 (by omega) (.string nm) (nm, M[k].2) rfl (k * 2) rfl
        obtain ⟨s2, g2⟩ := OwnG.store encE_len s1 k (by simpa using hkM) 1 (by omega) (.string tx) (nm, tx) (by simp [encE]) (k * 2 + 1) rfl
        rw [List.set_set] at s2
        have S2 := Lib.hid s2
        have G2 := Lib.hid ((hbw3.out.setCell (p := ⟨w.heap.size, k * 2, none⟩) (Nat.le_refl _) (.string nm)).setCell (p := ⟨w.heap.size, k * 2 + 1, none⟩) (Nat.le_refl _) (.string tx))
        have e0 : (encE M[k])[0]? = some (.string M[k].1) := rfl
        have e1 : (encE M[k])[1]? = some (.string M[k].2) := rfl
        rw [e0] at a0
        rw [e1] at b0
        clear s1 g1 s2 g2 e0 e1
        obtain ⟨x0, hx0⟩ : ∃ x, M[k].1 = x := ⟨_, rfl⟩
        obtain ⟨x1, hx1⟩ : ∃ x, M[k].2 = x := ⟨_, rfl⟩
        rw [hx0] at a0
        rw [hx1] at b0
        clear hx0 hx1
        go_wp2
        go_roundw
        case rel => exact ⟨k + 1, M.set k (nm, tx), by omega, by go_num, by rw [List.length_set]; exact hM.out, hset, S2, G2⟩
        case measure => simp [intOf]; omega
      · have HR : Hid (M = L) := Lib.hid (by have := hp.out; rw [List.take_of_length_le (by omega), List.take_of_length_le (by have := hM.out; omega)] at this; exact this)
        go_wp2
        go_ret
        exact ⟨.slice (some ⟨w.heap.size, 0, none⟩) L.length L.length, rfl, by have := hown.out; rw [HR.out] at this; exact this, hbr.out⟩
set_option maxRecDepth 100000 in
set_option maxHeartbeats 1000000 in
theorem eqEs_any (v v' : Value) (L : EL) (w : World) (h : RdG encE w v L) (h' : RdG encE w v' L) :
    Calls Try.prog 27 #[v, v'] w fun e w' => e = .returned (.bool true) ∧ Below w.heap.size w w' := by
  by_cases hL : L = []
  · subst hL
    obtain ⟨A, c, rfl, hc⟩ := h.nil
    obtain ⟨A', c', rfl, hc'⟩ := h'.nil
    go_enter Try.func27, Try.ntmps27
    go_wp2
    refine wp_loop_rounds 1 ?_
    rw [rounds_succ]; go_wp2
    go_ret
    exact ⟨rfl, Below.refl _ _⟩
  · obtain ⟨b, o, c, rfl, h1, h2, hb, h4⟩ := h.some hL
    obtain ⟨b', o', c', rfl, h1', h2', hb', h4'⟩ := h'.some hL
    unfold maxLen at h2 h2'
    have hcells := Lib.hid (fun k (hk : k < L.length) => rdE_cells h4 hk)
    have hcells' := Lib.hid (fun k (hk : k < L.length) => rdE_cells h4' hk)
    clear h4 h4' hL
    have t0 : ((L.length : Int) == (L.length : Int)) = true := by simp
    go_enter Try.func27, Try.ntmps27
    go_wp2
    go_loopw [5] (fun i wr => ∃ k : Nat, k ≤ L.length ∧ i = .int .i64 k ∧ Hid (Below w.heap.size w wr)) (fun i _ => L.length - (intOf i).toNat)
    case atStart => exact ⟨0, Nat.zero_le _, rfl, Lib.hid (Below.refl _ _)⟩
    case round =>
      obtain ⟨k, hk, rfl, hbr⟩ := hrel
      by_cases hlt : k < L.length
      · obtain ⟨c0, c1⟩ := hcells.out k hlt
        obtain ⟨d0, d1⟩ := hcells'.out k hlt
        rw [← hbr.out.cell (p := ⟨b, o + k * 2, none⟩) hb] at c0
        rw [← hbr.out.cell (p := ⟨b, o + k * 2 + 1, none⟩) hb] at c1
        rw [← hbr.out.cell (p := ⟨b', o' + k * 2, none⟩) hb'] at d0
        rw [← hbr.out.cell (p := ⟨b', o' + k * 2 + 1, none⟩) hb'] at d1
        obtain ⟨e, he⟩ : ∃ e, L[k] = e := ⟨_, rfl⟩
        rw [he] at c0 c1 d0 d1
        obtain ⟨nm, tx⟩ := e
        simp only at c0 c1 d0 d1
        have hj0 : (0 : Int) ≤ (k : Int) := by omega
        have hjj : (k : Int) < (L.length : Int) := by omega
        clear he
        have hbd : Hid (Below w.heap.size w wr.drew) := Lib.hid (Below.drew hbr.out)
        go_wp2
        go_region_held3 (fun w' => w'.cell? ⟨b, o + k * 2, none⟩ = some (.string nm) ∧ w'.cell? ⟨b, o + k * 2 + 1, none⟩ = some (.string tx) ∧ w'.cell? ⟨b', o' + k * 2, none⟩ = some (.string nm) ∧ w'.cell? ⟨b', o' + k * 2 + 1, none⟩ = some (.string tx) ∧ Hid (Below w.heap.size w w'))
          (first | exact ⟨c0, c1, d0, d1, hbd⟩ | exact hS3.out)
          (first | (go_at_call 46; refine (eqE_any nm tx _).mono ?_; rintro e w3 ⟨rfl, hb3⟩; have hS3 := Lib.hid (keepQ (W := w) (i := o + k * 2) (j := o + k * 2 + 1) (i' := o' + k * 2) (j' := o' + k * 2 + 1) (x := .string nm) (y := .string tx) (z := .string nm) (t := .string tx) hb hb' hb3 (by assumption) (by assumption) (by assumption) (by assumption) (by assumption))))
        go_split_ands
        rename Hid (Below w.heap.size w _) => hS
        go_wp2
        go_roundw
        case rel => exact ⟨k + 1, by omega, by go_num, hS⟩
        case measure => simp [intOf]; omega
      · go_wp2
        go_ret
        exact ⟨rfl, hbr.out⟩
set_option maxRecDepth 100000 in
set_option maxHeartbeats 1000000 in
theorem sameE_any (v v' : Value) (L : EL) (w : World) (h : RdG encE w v L) (h' : RdG encE w v' L) :
    Calls Try.prog 19 #[v, v'] w (Quiet (.bool true) w) := by
  by_cases hL : L = []
  · subst hL
    obtain ⟨A, c, rfl, hc⟩ := h.nil
    obtain ⟨A', c', rfl, hc'⟩ := h'.nil
    go_enter Try.func19, Try.ntmps19
    go_wp2
    refine wp_loop_rounds 1 ?_
    rw [rounds_succ]; go_wp2
    go_ret
    exact ⟨rfl, 0, rfl⟩
  · obtain ⟨b, o, c, rfl, h1, h2, hb, h4⟩ := h.some hL
    obtain ⟨b', o', c', rfl, h1', h2', hb', h4'⟩ := h'.some hL
    unfold maxLen at h2 h2'
    have hcells := Lib.hid (fun k (hk : k < L.length) => rdE_cells h4 hk)
    have hcells' := Lib.hid (fun k (hk : k < L.length) => rdE_cells h4' hk)
    clear h4 h4' hL
    have t0 : ((L.length : Int) == (L.length : Int)) = true := by simp
    go_enter Try.func19, Try.ntmps19
    go_wp2
    go_loopw [5] (fun i wr => ∃ k : Nat, k ≤ L.length ∧ i = .int .i64 k ∧ Hid (∃ m, wr = w.drewN m)) (fun i _ => L.length - (intOf i).toNat)
    case atStart => exact ⟨0, Nat.zero_le _, rfl, Lib.hid ⟨0, rfl⟩⟩
    case round =>
      obtain ⟨k, hk, rfl, hw⟩ := hrel
      by_cases hlt : k < L.length
      · have hcw : wr.cell? ⟨b, o + k * 2, none⟩ = some (.string L[k].1) ∧ wr.cell? ⟨b, o + k * 2 + 1, none⟩ = some (.string L[k].2) := by
          obtain ⟨m, hm⟩ := hw.out; rw [hm]; exact hcells.out k hlt
        have hdw : wr.cell? ⟨b', o' + k * 2, none⟩ = some (.string L[k].1) ∧ wr.cell? ⟨b', o' + k * 2 + 1, none⟩ = some (.string L[k].2) := by
          obtain ⟨m, hm⟩ := hw.out; rw [hm]; exact hcells'.out k hlt
        obtain ⟨c0, c1⟩ := hcw
        obtain ⟨d0, d1⟩ := hdw
        obtain ⟨e, he⟩ : ∃ e, L[k] = e := ⟨_, rfl⟩
        rw [he] at c0 c1 d0 d1
        obtain ⟨nm, tx⟩ := e
        simp only at c0 c1 d0 d1
        have hj0 : (0 : Int) ≤ (k : Int) := by omega
        have hjj : (k : Int) < (L.length : Int) := by omega
        have q1 := str_same (a := nm) (b := nm) rfl
        have q2 := str_same (a := tx) (b := tx) rfl
        clear he
        go_wp2
        go_quiet (fail)
        go_wp2
        go_roundw
        case rel => exact ⟨k + 1, by omega, by go_num, Lib.hid (by obtain ⟨m, hm⟩ := hw.out; exact ⟨_, by rw [hm, drewN_add]⟩)⟩
        case measure => simp [intOf]; omega
      · go_wp2
        go_ret
        exact ⟨rfl, hw.out⟩
/-- elements that were marked -/
def markE (n m : Nat) : EL := (List.range n).map fun i => (mlT (m + 2 * i), mlT (m + 2 * i + 1))
theorem markE_len (n m : Nat) : (markE n m).length = n := by simp [markE]
theorem markE_get (n m i : Nat) (h : i < (markE n m).length) : (markE n m)[i] = (mlT (m + 2 * i), mlT (m + 2 * i + 1)) := by simp [markE]
def GotMarkE (W : World) (v : Value) (n m : Nat) (e : Ending) (w' : World) : Prop := e = .returned (.int .i64 ((m + 2 * n : Nat) : Int)) ∧ OwnE w' W.heap.size v (markE n m) ∧ Below W.heap.size W w'
set_option maxRecDepth 100000 in
set_option maxHeartbeats 1000000 in
theorem markEs_any (v : Value) (L : EL) (m : Nat) (W w : World) (hown : OwnE w W.heap.size v L) (hb : Below W.heap.size W w) (hn : L.length ≤ 100) (hm : m ≤ 1000) :
    Calls Try.prog 28 #[v, .int .i64 m] w (GotMarkE W v L.length m) := by
  rcases OwnG.form hown with ⟨rfl, rfl⟩ | ⟨g, c, rfl, hg⟩
  · go_enter Try.func28, Try.ntmps28
    go_wp2
    refine wp_loop_rounds 1 ?_
    rw [rounds_succ]; go_wp2
    go_ret
    exact ⟨rfl, hown, hb⟩
  · have hown := Lib.hid hown
    have hb := Lib.hid hb
    go_enter Try.func28, Try.ntmps28
    go_wp2
    go_loopw [1, 5] (fun t i wr => ∃ (k q : Nat) (M : EL), k ≤ L.length ∧ i = .int .i64 k ∧ t = .int .i64 q ∧ q ≤ 1200 ∧ Hid (q = m + 2 * k) ∧ M.length = L.length ∧ Hid (M.take k = (markE L.length m).take k) ∧ Hid (OwnE wr W.heap.size (.slice (some ⟨g, 0, none⟩) L.length c) M) ∧ Hid (Below W.heap.size W wr)) (fun _ i _ => L.length - (intOf i).toNat)
    case atStart => exact ⟨0, m, L, Nat.zero_le _, rfl, rfl, by omega, Lib.hid rfl, rfl, Lib.hid rfl, hown, hb⟩
    case round =>
      obtain ⟨k, q, M, hk, rfl, rfl, hq1, hq, hM, hp, hownr, hbr⟩ := hrel
      have hM := Lib.hid hM
      by_cases hlt : k < L.length
      · have hkM : k < M.length := by rw [hM.out]; exact hlt
        have hset := Lib.hid (set_take (L := markE L.length m) (by rw [markE_len]; exact hM.out) (by rw [markE_len]; exact hlt) hp.out (mlT q, mlT (q + 1)) (by rw [markE_get, hq.out]))
        have hjj : (k : Int) < (L.length : Int) := by omega
        have hq2 : q + 1 ≤ 1200 := by have := hq.out; omega
        have hq3 : q + 2 ≤ 1200 := by have := hq.out; omega
        have HQ : Hid (q + 1 + 1 = m + 2 * (k + 1)) := Lib.hid (by have := hq.out; omega)
        go_wp2_with fail
        refine (mkl_int _ q _ rfl (by omega)).mono ?_
        rintro e w3 ⟨rfl, hb3⟩
        have hown3 := Lib.hid (OwnG.grown hownr.out hb3)
        have hbw3 := Lib.hid (below_trans' hbr.out hb3)
        clear hb3
        obtain ⟨a0, a1, a2⟩ := OwnG.cellAt encE_len hown3.out k hkM 0 (by omega) (k * 2) rfl
        rw [show (encE M[k])[0]? = some (.string M[k].1) from rfl] at a0
        have S1 := Lib.hid (OwnG.store encE_len hown3.out k hkM 0 (by omega) (.string (mlT q)) (mlT q, M[k].2) rfl (k * 2) rfl).1
        have G1 := Lib.hid (hbw3.out.setCell (p := ⟨g, k * 2, none⟩) hg (.string (mlT q)))
        obtain ⟨x0, hx0⟩ : ∃ x, M[k].1 = x := ⟨_, rfl⟩
        rw [hx0] at a0
        obtain ⟨x1, hx1⟩ : ∃ x, M[k].2 = x := ⟨_, rfl⟩
        rw [hx1] at S1
        clear hx0 hx1
        go_wp2_with fail
        refine (mkl_int _ (q + 1) _ (by omega) (by omega)).mono ?_
        rintro e w5 ⟨rfl, hb5⟩
        have hown5 := Lib.hid (OwnG.grown S1.out hb5)
        have hbw5 := Lib.hid (below_trans' G1.out hb5)
        clear hb5 a0 a1 a2
        have hkM2 : k < (M.set k (mlT q, x1)).length := by rw [List.length_set]; exact hkM
        obtain ⟨a0, a1, a2⟩ := OwnG.cellAt encE_len hown5.out k hkM2 1 (by omega) (k * 2 + 1) rfl
        rw [List.getElem_set_self, show (encE (mlT q, x1))[1]? = some (.string x1) from rfl] at a0
        have s2 := (OwnG.store encE_len hown5.out k hkM2 1 (by omega) (.string (mlT (q + 1))) (mlT q, mlT (q + 1)) (by rw [List.getElem_set_self]; rfl) (k * 2 + 1) rfl).1
        rw [List.set_set] at s2
        have S2 := Lib.hid s2
        have G2 := Lib.hid (hbw5.out.setCell (p := ⟨g, k * 2 + 1, none⟩) hg (.string (mlT (q + 1))))
        clear s2
        go_wp2
        go_roundw
        case rel => exact ⟨k + 1, q + 1 + 1, M.set k (mlT q, mlT (q + 1)), by omega, by go_num, by go_num, hq3, HQ, by rw [List.length_set]; exact hM.out, hset, S2, G2⟩
        case measure => simp [intOf]; omega
      · have HR : Hid (M = markE L.length m) := Lib.hid (by have := hp.out; rw [List.take_of_length_le (by have := hM.out; omega), List.take_of_length_le (by rw [markE_len]; omega)] at this; exact this)
        have hqn : q = m + 2 * L.length := by have := hq.out; omega
        have hqn := Lib.hid hqn
        go_wp2
        go_ret
        exact ⟨by rw [← hqn.out]; rfl, by rw [← HR.out]; exact hownr.out, hbr.out⟩
set_option maxRecDepth 100000 in
set_option maxHeartbeats 1000000 in
theorem heldEs_any (v : Value) (n m : Nat) (w : World) (h : RdG encE w v (markE n m)) (hn : n ≤ 100) (hm : m ≤ 1000) :
    Calls Try.prog 29 #[v, .int .i64 m] w fun e w' => e = .returned (.int .i64 ((m + 2 * n : Nat) : Int)) ∧ Below w.heap.size w w' := by
  by_cases h0 : n = 0
  · subst h0
    obtain ⟨A, c, rfl, hc⟩ := h.nil
    go_enter Try.func29, Try.ntmps29
    go_wp2
    refine wp_loop_rounds 1 ?_
    rw [rounds_succ]; go_wp2
    go_ret
    exact ⟨rfl, Below.refl _ _⟩
  · obtain ⟨b, o, c, rfl, h1, h2, hb, h4⟩ := h.some (fun e => h0 (by rw [← markE_len n m, e]; rfl))
    rw [markE_len] at h1
    rw [markE_len]
    unfold maxLen at h2
    have hcells := Lib.hid (fun k (hk : k < (markE n m).length) => rdE_cells h4 hk)
    clear h4 h h0
    go_enter Try.func29, Try.ntmps29
    go_wp2
    go_loopw [1, 5] (fun t i wr => ∃ (k q : Nat), k ≤ n ∧ i = .int .i64 k ∧ t = .int .i64 q ∧ q ≤ 1200 ∧ Hid (q = m + 2 * k) ∧ Hid (Below w.heap.size w wr)) (fun _ i _ => n - (intOf i).toNat)
    case atStart => exact ⟨0, m, Nat.zero_le _, rfl, rfl, by omega, Lib.hid rfl, Lib.hid (Below.refl _ _)⟩
    case round =>
      obtain ⟨k, q, hk, rfl, rfl, hq1, hq, hbr⟩ := hrel
      by_cases hlt : k < n
      · obtain ⟨c0, c1⟩ := hcells.out k (by rw [markE_len]; exact hlt)
        rw [← hbr.out.cell (p := ⟨b, o + k * 2, none⟩) hb] at c0
        rw [← hbr.out.cell (p := ⟨b, o + k * 2 + 1, none⟩) hb] at c1
        rw [markE_get, ← hq.out] at c0 c1
        simp only at c0 c1
        have hj0 : (0 : Int) ≤ (k : Int) := by omega
        have hjj : (k : Int) < (n : Int) := by omega
        have hq2 : q + 1 ≤ 1200 := by have := hq.out; omega
        have hq3 : q + 2 ≤ 1200 := by have := hq.out; omega
        have HQ : Hid (q + 1 + 1 = m + 2 * (k + 1)) := Lib.hid (by have := hq.out; omega)
        have q1 := str_same (a := mlT q) (b := mlT q) rfl
        have q2 := str_same (a := mlT (q + 1)) (b := mlT (q + 1)) rfl
        have hbd : Hid (Below w.heap.size w wr.drew) := Lib.hid (Below.drew hbr.out)
        go_wp2
        go_region_held3 (fun w' => w'.cell? ⟨b, o + k * 2, none⟩ = some (.string (mlT q)) ∧ w'.cell? ⟨b, o + k * 2 + 1, none⟩ = some (.string (mlT (q + 1))) ∧ Hid (Below w.heap.size w w'))
          (first | exact ⟨c0, c1, hbd⟩ | exact hS3.out)
          (first | (go_at_call 47; refine (mkl_int _ q _ rfl (by omega)).mono ?_; rintro e w3 ⟨rfl, hb3⟩; have hS3 := Lib.hid (keep2 (W := w) (i := o + k * 2) (j := o + k * 2 + 1) (x := .string (mlT q)) (y := .string (mlT (q + 1))) hb hb3 (by assumption) (by assumption) (by assumption))))
        go_split_ands
        rename Hid (Below w.heap.size w _) => hS
        have hS' := Lib.hid (Below.drew hS.out)
        go_wp2
        go_region_held3 (fun w' => w'.cell? ⟨b, o + k * 2, none⟩ = some (.string (mlT q)) ∧ w'.cell? ⟨b, o + k * 2 + 1, none⟩ = some (.string (mlT (q + 1))) ∧ Hid (Below w.heap.size w w'))
          (first | exact ⟨by assumption, by assumption, hS'⟩ | exact hS5.out)
          (first | (go_at_call 47; refine (mkl_int _ (q + 1) _ (by omega) (by omega)).mono ?_; rintro e w5 ⟨rfl, hb5⟩; have hS5 := Lib.hid (keep2 (W := w) (i := o + k * 2) (j := o + k * 2 + 1) (x := .string (mlT q)) (y := .string (mlT (q + 1))) hb hb5 (by assumption) (by assumption) (by assumption))))
        go_split_ands
        rename Hid (Below w.heap.size w _) => hT
        go_wp2
        go_roundw
        case rel => exact ⟨k + 1, q + 1 + 1, by omega, by go_num, by go_num, hq3, HQ, hT⟩
        case measure => simp [intOf]; omega
      · have hqn : q = m + 2 * n := by have := hq.out; omega
        have hqn := Lib.hid hqn
        go_wp2
        go_ret
        exact ⟨by rw [← hqn.out]; rfl, hbr.out⟩
theorem elLE {H : Type} {en : TypeId × Value → H} {w : World} {spare : Nat → Bool} {held : Bool} : ∀ m cs' x', DataW.trod en Try.prog w 0 spare held m 57 cs' = some x' → ∃ y : ByteArray × ByteArray, cs' = encE y ∧ (y.1.size ≤ maxLen ∧ y.2.size ≤ maxLen) := by
  intro m cs x h
  obtain ⟨xs, n, _, _, hlen, hxl, hf⟩ := DataW.trod_struct Try.underlying57 h
  have hC : Try.prog.cellsOf 57 = 2 := by kernel_rfl
  have k9 : Try.prog.cellsOf 9 = 1 := by kernel_rfl
  rw [hC] at hlen
  match cs, hlen, xs, hxl with
  | [c0, c1], _, [y0, y1], _ =>
    have h0 : DataW.trod en Try.prog w 0 spare held n 9 [c0] = some y0 := by have := hf 0 _ rfl; simpa [k9] using this
    have h1 : DataW.trod en Try.prog w 0 spare held n 9 [c1] = some y1 := by have := hf 1 _ rfl; simpa [k9] using this
    obtain ⟨s0, e0, _, m0⟩ := DataW.trod_string Try.underlying9 h0
    obtain ⟨s1, e1, _, m1⟩ := DataW.trod_string Try.underlying9 h1
    simp at e0 e1
    exact ⟨(s0, s1), by rw [e0, e1]; rfl, m0, m1⟩
/-- an argument of elements -/
def ArgEL (w : World) (A : Option Addr) (n c : Nat) (L : EL) : Prop := L.length = n ∧ RdG encE w (.slice A n c) L ∧ MaxE L
theorem argE {H : Type} {en : TypeId × Value → H} {w : World} {spare : Nat → Bool} {held : Bool} {fuel : Nat} {A : Option Addr} {n c : Nat} {cs : List Value} {x : DataW H × List MemPlace} (hcs : cs = [.slice A n c]) (h : DataW.trod en Try.prog w 0 spare held fuel 39 cs = some x) :
    ∃ L : EL, ArgEL w A n c L :=
  rd_arg 2 (by decide) Try.underlying39 (by kernel_rfl) encE_len _ elLE hcs h
theorem own_lit1 (w : World) (B : Nat) (n t : ByteArray) (h : B ≤ w.heap.size) : OwnE (w.alloc (.cells #[.string n, .string t] 27)) B (.slice (some ⟨w.heap.size, 0, none⟩) 1 1) [(n, t)] := by
  have := World.ownsRow_lit (e := 27) (size := 2) (base := B) w #[.string n, .string t] 1 h (by simp [maxLen]) rfl
  exact this
theorem app_els {ops : Array Oper} {rest : List Oper} {o : Oper} {a : Act} {Q : Exit → Act → World → Prop} {w : World} (hgd : o.guard = none) (s x : Operand)
    (ho : o.op = .call { callee := .builtin .append, args := #[s, x], argTypes := #[23, 23] }) (B : Nat) (v u : Value) (L M : EL) (hs : a.eval s = v) (hown : OwnE w B v L) (hB : B ≤ w.heap.size) (hx : a.eval x = u) (hrd : RdG encE w u M) (hl : L.length + M.length ≤ 1073741824)
    (h : ∀ v' w', OwnE w' B v' (L ++ M) → w.grownBy w' v.ownBlock → wpList Try.prog ops Q rest (a.put o.dst v') w') : wpList Try.prog ops Q (o :: rest) a w :=
  app_all (enc := encE) hgd s x 23 ho 27 2 32 _ Try.underlying23 infoE rfl (by decide) (by decide) encE_len encE_one B v u L M hs hown hB hx hrd hl h
end Go.Proofs.Ytjdllminjpppbaa
