/-
  The verifier's own text: LawF LawF2 LawF3.
-/
import Derived.Test.YtbljpbmpfmnemaaRows
import Derived.Test.YtbljpbmpfmnemaaGq
import Derived.Test.YtbljpbmpfmnemaaGo
import Derived.Test.YtbljpbmpfmnemaaGb
import Derived.Deep.RegionHeld3
import Derived.Test.YtbljpbmpfmnemaaGa
import Derived.WalkKit
import Derived.ProofKit
import Derived.Below
import Derived.Lib.Hide
import Derived.Outline
import Derived.BigQuiet
import Derived.Deep.QuietTactic
import Derived.Deep.Draws
import Derived.Laws.OwnMore
import Derived.Laws.Rows
import Derived.WalkSpells
import Derived.Deep.RegionWith
namespace Go.Proofs.Ytbljpbmpfmnemaa
open Go.RowKit
set_option linter.unusedVariables false
def Sz1F (i : It) : Prop := Sz1I i.key i.title i.body
def SzF (L : List It) : Prop := L.length ≤ 1048576 ∧ ∀ e ∈ L, Sz1F e
def MaxF (L : List It) : Prop := ∀ e ∈ L, e.key.size ≤ maxLen ∧ e.title.size ≤ maxLen ∧ e.body.size ≤ maxLen
theorem fit_szF {L : List It} (h : SzF L) : FitF L := fun e m => by
  obtain ⟨a, b, c⟩ := h.2 e m
  exact ⟨by omega, by omega, by omega⟩
set_option maxRecDepth 100000 in
set_option maxHeartbeats 1000000 in
theorem szIs_any (v : Value) (L : List It) (w : World) (h : RdG encI w v L) (hm : MaxF L) :
    Calls Try.prog 32 #[v, .int .i64 1048576] w (GotSz (SzF L) 1048576 w) := by
  by_cases hL : L = []
  · subst hL
    obtain ⟨A, c, rfl, hc⟩ := h.nil
    go_enter Try.func32, Try.ntmps32
    go_wp2
    refine wp_loop_rounds 1 ?_
    rw [rounds_succ]; go_wp2
    go_ret
    exact ⟨_, rfl, Int.le_refl _, fun _ => ⟨by simp, by intro e m; simp at m⟩, Below.refl _ _⟩
  · obtain ⟨b, o, c, rfl, h1, h2, hb, h4⟩ := h.some hL
    unfold maxLen at h2
    have hcells := Lib.hid (fun k (hk : k < L.length) => rdI_cells h4 hk)
    clear h4 hL
    by_cases hbig : 1048576 < L.length
    · go_enter Try.func32, Try.ntmps32
      go_wp2
      go_ret
      exact ⟨-1, rfl, by omega, fun h => absurd h (by omega), Below.refl _ _⟩
    · go_enter Try.func32, Try.ntmps32
      go_wp2
      go_loopw [1, 5] (fun t i wr => ∃ (k : Nat) (r : Int), k ≤ L.length ∧ i = .int .i64 k ∧ t = .int .i64 r ∧ 0 ≤ r ∧ r ≤ 1048576 ∧ Hid (∀ e ∈ L.take k, Sz1F e) ∧ Hid (Below w.heap.size w wr)) (fun _ i _ => L.length - (intOf i).toNat)
      case atStart => exact ⟨0, _, Nat.zero_le _, rfl, rfl, by omega, by omega, Lib.hid (by simp), Lib.hid (Below.refl _ _)⟩
      case round =>
        obtain ⟨k, r, hk, rfl, rfl, r0, r1, hp, hbr⟩ := hrel
        by_cases hlt : k < L.length
        · obtain ⟨c0, c1, c2, c3⟩ := rdI_at hcells.out hb hbr.out hlt
          obtain ⟨f0, f1, f2⟩ := hm _ (List.getElem_mem hlt)
          have hN := fun q => take_mem (p := Sz1F) hlt hp.out q
          obtain ⟨e, he⟩ : ∃ e, L[k] = e := ⟨_, rfl⟩
          rw [he] at c0 c1 c2 c3 f0 f1 f2 hN
          obtain ⟨ky, ti, bo, da⟩ := e
          simp only at c0 c1 c2 c3 f0 f1 f2
          have HN := Lib.hid hN
          have hjj : (k : Int) < (L.length : Int) := by omega
          clear he hN
          go_wp2_with fail
          refine (szI_any ky ti bo da r _ f0 f1 f2 r0 r1).mono ?_
          rintro e w3 ⟨r', rfl, hr1, hr2, hb3⟩
          have hb3 := Lib.hid (below_trans' hbr.out hb3)
          have hr2 := Lib.hid hr2
          by_cases hneg : r' < 0
          · go_wp2
            go_ret
            exact ⟨_, rfl, by omega, fun h => absurd h (by omega), hb3.out⟩
          · have hx := Lib.hid (HN.out (hr2.out (by omega)))
            go_wp2
            go_roundw
            case rel => exact ⟨k + 1, r', by omega, by go_num, rfl, by omega, by omega, hx, hb3⟩
            case measure => simp [intOf]; omega
        · have HR : Hid (SzF L) := Lib.hid ⟨by omega, by have := hp.out; rw [List.take_of_length_le (by omega)] at this; exact this⟩
          go_wp2
          go_ret
          exact ⟨_, rfl, r1, fun _ => HR.out, hbr.out⟩
theorem infoI : (Try.prog.info? 30).map (fun i => (i.zero, i.size, i.bytes)) = some (some (.agg #[.string ⟨#[]⟩, .string ⟨#[]⟩, .string ⟨#[]⟩, .int .i64 0]), 4, 56) := by kernel_rfl
theorem encI_one (i : It) (u : Value) (h : u ∈ encI i) : u.oneCell' = true := by
  simp [encI] at h
  rcases h with rfl | rfl | rfl | rfl <;> rfl
def OwnF (w : World) (B : Nat) (v : Value) (L : List It) : Prop := OwnG 30 4 encI w B v L
theorem made_four (a b c d : Value) (n : Nat) : (madeCells #[a, b, c, d] (n * 4)).toList = (List.replicate n [a, b, c, d]).flatten := by
  induction n with
  | zero => simp [madeCells]
  | succ n ih =>
    rw [List.replicate_succ', List.flatten_append, ← ih]
    unfold madeCells
    rw [Nat.succ_mul, Array.range_succ, Array.range_succ, Array.range_succ, Array.range_succ]
    have e1 : (n * 4 + 1) % 4 = 1 := by omega
    have e2 : (n * 4 + 2) % 4 = 2 := by omega
    have e3 : (n * 4 + 3) % 4 = 3 := by omega
    simp [e1, e2, e3]
def GotOwnF (L : List It) (w : World) (e : Ending) (w' : World) : Prop := ∃ v : Value, e = .returned v ∧ OwnF w' w.heap.size v L ∧ Below w.heap.size w w'
theorem full_items {ops : Array Oper} {rest : List Oper} {o : Oper} {a : Act} {Q : Exit → Act → World → Prop} {w : World} (hg : o.guard = none) (l c : Operand) (hop : o.op = Op.makeSlice 23 l c)
    (n : Nat) (hl : a.eval l = .int .i64 n) (hc : a.eval c = .int .i64 n) (hn : n ≤ 1073741824)
    (hK : ∀ w', OwnF w' w.heap.size (.slice (some ⟨w.heap.size, 0, none⟩) n n) (List.replicate n It.zero) → Below w.heap.size w w' → wpList Try.prog ops Q rest (a.put o.dst (.slice (some ⟨w.heap.size, 0, none⟩) n n)) w') : wpList Try.prog ops Q (o :: rest) a w := by
  obtain ⟨i0, hi, hz0, hz1, hz2⟩ := info_parts infoI
  refine wpList_make_full w hg l c 23 hop w.heap.size 30 i0 _ 4 Try.underlying23 hi hz0 hz1 .i64 .i64 n n n hl hc rfl rfl ?_ ?_ (Nat.le_refl _) ?_
  · rw [hz2]; omega
  · unfold maxLen; omega
  · intro w' h1 h2
    refine hK w' ?_ ((Below.refl _ _).grown h2 (Nat.le_refl _) (fun k hk => by cases hk))
    unfold OwnF OwnG
    rw [List.length_replicate, flat_rep]
    have e : (madeCells (Value.agg #[Value.string ⟨#[]⟩, Value.string ⟨#[]⟩, Value.string ⟨#[]⟩, Value.int .i64 0]).cells (n * 4)).toList = (List.replicate n (encI It.zero)).flatten := made_four _ _ _ _ n
    rw [← e]; exact h1
set_option maxRecDepth 100000 in
set_option maxHeartbeats 4000000 in
theorem toIs_any (v : Value) (L : List It) (w : World) (h : RdG encI w v L) (hn : L.length ≤ 1048576) :
    Calls Try.prog 33 #[v] w (GotOwnF L w) := by
  by_cases hL : L = []
  · subst hL
    obtain ⟨A, c, rfl, hc⟩ := h.nil
    go_enter Try.func33, Try.ntmps33
    go_wp2_with (at_make; refine full_items rfl _ _ rfl 0 rfl rfl (by omega) ?_; intro w1 hown0 hb0)
    refine wp_loop_rounds 1 ?_
    rw [rounds_succ]; go_wp2
    go_ret
    exact ⟨_, rfl, hown0, hb0⟩
  · obtain ⟨b, o, c, rfl, h1, h2, hb, h4⟩ := h.some hL
    unfold maxLen at h2
    have hcells := Lib.hid (fun k (hk : k < L.length) => rdI_cells h4 hk)
    clear h4 hL
    go_enter Try.func33, Try.ntmps33
    go_wp2_with (at_make; refine full_items rfl _ _ rfl L.length rfl rfl (by omega) ?_; intro w1 hown0 hb0)
    have hown0 := Lib.hid hown0
    have hb0 := Lib.hid hb0
    go_loopw [4] (fun i wr => ∃ (k : Nat) (M : List It), k ≤ L.length ∧ i = .int .i64 k ∧ M.length = L.length ∧ Hid (M.take k = L.take k) ∧ Hid (OwnF wr w.heap.size (.slice (some ⟨w.heap.size, 0, none⟩) L.length L.length) M) ∧ Hid (Below w.heap.size w wr)) (fun i _ => L.length - (intOf i).toNat)
    case atStart => exact ⟨0, List.replicate L.length It.zero, Nat.zero_le _, rfl, by simp, Lib.hid rfl, hown0, hb0⟩
    case round =>
      obtain ⟨k, M, hk, rfl, hM, hp, hown, hbr⟩ := hrel
      have hM := Lib.hid hM
      by_cases hlt : k < L.length
      · obtain ⟨c0, c1, c2, c3⟩ := rdI_at hcells.out hb hbr.out hlt
        have hset := Lib.hid (set_take hM.out hlt hp.out L[k] rfl)
        obtain ⟨e, he⟩ : ∃ e, L[k] = e := ⟨_, rfl⟩
        rw [he] at c0 c1 c2 c3 hset
        obtain ⟨ky, ti, bo, da⟩ := e
        simp only at c0 c1 c2 c3
        have hjj : (k : Int) < (L.length : Int) := by omega
        clear he
        go_wp2_with fail
        refine (toI_any ky ti bo da _).mono ?_
        rintro e w3 ⟨rfl, hb3⟩
        have hown3 := Lib.hid (OwnG.grown hown.out hb3)
        have hbw3 := Lib.hid (below_trans' hbr.out hb3)
        have hkM : k < M.length := by rw [hM.out]; exact hlt
        obtain ⟨x, hx⟩ : ∃ x, M[k] = x := ⟨_, rfl⟩
        have cell := fun j hj => OwnG.cellAt encI_len hown3.out k hkM j hj (k * 4 + j) rfl
        rw [hx] at cell
        obtain ⟨a0, a1, a2⟩ := OwnG.cellAt encI_len hown3.out k hkM 0 (by omega) (k * 4) rfl
        obtain ⟨b0, b1, _⟩ := cell 1 (by omega)
        obtain ⟨d0, d1, _⟩ := cell 2 (by omega)
        obtain ⟨e0, e1, _⟩ := cell 3 (by omega)
        rw [hx] at a0
        rw [show (encI x)[0]? = some (.string x.key) from rfl] at a0
        rw [show (encI x)[1]? = some (.string x.title) from rfl] at b0
        rw [show (encI x)[2]? = some (.string x.body) from rfl] at d0
        rw [show (encI x)[3]? = some (.int .i64 x.day) from rfl] at e0
        have s1 := (OwnG.store encI_len hown3.out k hkM 0 (by omega) (.string ky) ⟨ky, x.title, x.body, x.day⟩ (by rw [hx]; rfl) (k * 4) rfl).1
        have s2 := (OwnG.store encI_len s1 k (by simpa using hkM) 1 (by omega) (.string ti) ⟨ky, ti, x.body, x.day⟩ (by rw [List.getElem_set_self]; rfl) (k * 4 + 1) rfl).1
        have s3 := (OwnG.store encI_len s2 k (by simpa using hkM) 2 (by omega) (.string bo) ⟨ky, ti, bo, x.day⟩ (by rw [List.getElem_set_self]; rfl) (k * 4 + 2) rfl).1
        have s4 := (OwnG.store encI_len s3 k (by simpa using hkM) 3 (by omega) (.int .i64 da) ⟨ky, ti, bo, da⟩ (by rw [List.getElem_set_self]; rfl) (k * 4 + 3) rfl).1
        rw [List.set_set, List.set_set, List.set_set] at s4
        have S4 := Lib.hid s4
        have G4 := Lib.hid ((((hbw3.out.setCell (p := ⟨w.heap.size, k * 4, none⟩) (Nat.le_refl _) (.string ky)).setCell (p := ⟨w.heap.size, k * 4 + 1, none⟩) (Nat.le_refl _) (.string ti)).setCell (p := ⟨w.heap.size, k * 4 + 2, none⟩) (Nat.le_refl _) (.string bo)).setCell (p := ⟨w.heap.size, k * 4 + 3, none⟩) (Nat.le_refl _) (.int .i64 da))
        clear s1 s2 s3 s4 cell
        obtain ⟨y0, hy0⟩ : ∃ y, x.key = y := ⟨_, rfl⟩
        obtain ⟨y1, hy1⟩ : ∃ y, x.title = y := ⟨_, rfl⟩
        obtain ⟨y2, hy2⟩ : ∃ y, x.body = y := ⟨_, rfl⟩
        obtain ⟨y3, hy3⟩ : ∃ y, x.day = y := ⟨_, rfl⟩
        rw [hy0] at a0
        rw [hy1] at b0
        rw [hy2] at d0
        rw [hy3] at e0
        clear hy0 hy1 hy2 hy3 hx
        go_wp2
        go_roundw
        case rel => exact ⟨k + 1, M.set k ⟨ky, ti, bo, da⟩, by omega, by go_num, by rw [List.length_set]; exact hM.out, hset, S4, G4⟩
        case measure => simp [intOf]; omega
      · have HR : Hid (M = L) := Lib.hid (by have := hp.out; rw [List.take_of_length_le (by omega), List.take_of_length_le (by have := hM.out; omega)] at this; exact this)
        go_wp2
        go_ret
        exact ⟨.slice (some ⟨w.heap.size, 0, none⟩) L.length L.length, rfl, by have := hown.out; rw [HR.out] at this; exact this, hbr.out⟩
theorem keep8 {W w2 w3 : World} {b b' i i' : Nat} {x0 x1 x2 x3 y0 y1 y2 y3 : Value} (hb : b < W.heap.size) (hb' : b' < W.heap.size) (h : Below w2.heap.size w2 w3)
    (a0 : w2.cell? ⟨b, i, none⟩ = some x0) (a1 : w2.cell? ⟨b, i + 1, none⟩ = some x1) (a2 : w2.cell? ⟨b, i + 2, none⟩ = some x2) (a3 : w2.cell? ⟨b, i + 3, none⟩ = some x3)
    (c0 : w2.cell? ⟨b', i', none⟩ = some y0) (c1 : w2.cell? ⟨b', i' + 1, none⟩ = some y1) (c2 : w2.cell? ⟨b', i' + 2, none⟩ = some y2) (c3 : w2.cell? ⟨b', i' + 3, none⟩ = some y3) (h4 : Hid (Below W.heap.size W w2)) :
    w3.cell? ⟨b, i, none⟩ = some x0 ∧ w3.cell? ⟨b, i + 1, none⟩ = some x1 ∧ w3.cell? ⟨b, i + 2, none⟩ = some x2 ∧ w3.cell? ⟨b, i + 3, none⟩ = some x3 ∧
    w3.cell? ⟨b', i', none⟩ = some y0 ∧ w3.cell? ⟨b', i' + 1, none⟩ = some y1 ∧ w3.cell? ⟨b', i' + 2, none⟩ = some y2 ∧ w3.cell? ⟨b', i' + 3, none⟩ = some y3 ∧ Hid (Below W.heap.size W w3) := by
  have hs := h4.out.size
  have q : ∀ (g k : Nat) (u : Value), g < W.heap.size → w2.cell? ⟨g, k, none⟩ = some u → w3.cell? ⟨g, k, none⟩ = some u := fun g k u hg e => by rw [h.cell (p := ⟨g, k, none⟩) (Nat.lt_of_lt_of_le hg hs)]; exact e
  exact ⟨q _ _ _ hb a0, q _ _ _ hb a1, q _ _ _ hb a2, q _ _ _ hb a3, q _ _ _ hb' c0, q _ _ _ hb' c1, q _ _ _ hb' c2, q _ _ _ hb' c3, Lib.hid (below_trans' h4.out h)⟩
set_option maxRecDepth 100000 in
set_option maxHeartbeats 4000000 in
theorem eqIs_any (v v' : Value) (L : List It) (w : World) (h : RdG encI w v L) (h' : RdG encI w v' L) :
    Calls Try.prog 34 #[v, v'] w fun e w' => e = .returned (.bool true) ∧ Below w.heap.size w w' := by
  by_cases hL : L = []
  · subst hL
    obtain ⟨A, c, rfl, hc⟩ := h.nil
    obtain ⟨A', c', rfl, hc'⟩ := h'.nil
    go_enter Try.func34, Try.ntmps34
    go_wp2
    refine wp_loop_rounds 1 ?_
    rw [rounds_succ]; go_wp2
    go_ret
    exact ⟨rfl, Below.refl _ _⟩
  · obtain ⟨b, o, c, rfl, h1, h2, hb, h4⟩ := h.some hL
    obtain ⟨b', o', c', rfl, h1', h2', hb', h4'⟩ := h'.some hL
    unfold maxLen at h2 h2'
    have hcells := Lib.hid (fun k (hk : k < L.length) => rdI_cells h4 hk)
    have hcells' := Lib.hid (fun k (hk : k < L.length) => rdI_cells h4' hk)
    clear h4 h4' hL
    have t0 : ((L.length : Int) == (L.length : Int)) = true := by simp
    go_enter Try.func34, Try.ntmps34
    go_wp2
    go_loopw [5] (fun i wr => ∃ k : Nat, k ≤ L.length ∧ i = .int .i64 k ∧ Hid (Below w.heap.size w wr)) (fun i _ => L.length - (intOf i).toNat)
    case atStart => exact ⟨0, Nat.zero_le _, rfl, Lib.hid (Below.refl _ _)⟩
    case round =>
      obtain ⟨k, hk, rfl, hbr⟩ := hrel
      by_cases hlt : k < L.length
      · obtain ⟨c0, c1, c2, c3⟩ := rdI_at hcells.out hb hbr.out hlt
        obtain ⟨d0, d1, d2, d3⟩ := rdI_at hcells'.out hb' hbr.out hlt
        obtain ⟨e, he⟩ : ∃ e, L[k] = e := ⟨_, rfl⟩
        rw [he] at c0 c1 c2 c3 d0 d1 d2 d3
        obtain ⟨ky, ti, bo, da⟩ := e
        simp only at c0 c1 c2 c3 d0 d1 d2 d3
        have hj0 : (0 : Int) ≤ (k : Int) := by omega
        have hjj : (k : Int) < (L.length : Int) := by omega
        clear he
        have hbd : Hid (Below w.heap.size w wr.drew) := Lib.hid (Below.drew hbr.out)
        go_wp2
        go_region_held3 (fun w' => w'.cell? ⟨b, o + k * 4, none⟩ = some (.string ky) ∧ w'.cell? ⟨b, o + k * 4 + 1, none⟩ = some (.string ti) ∧ w'.cell? ⟨b, o + k * 4 + 2, none⟩ = some (.string bo) ∧ w'.cell? ⟨b, o + k * 4 + 3, none⟩ = some (.int .i64 da) ∧
            w'.cell? ⟨b', o' + k * 4, none⟩ = some (.string ky) ∧ w'.cell? ⟨b', o' + k * 4 + 1, none⟩ = some (.string ti) ∧ w'.cell? ⟨b', o' + k * 4 + 2, none⟩ = some (.string bo) ∧ w'.cell? ⟨b', o' + k * 4 + 3, none⟩ = some (.int .i64 da) ∧ Hid (Below w.heap.size w w'))
          (first | exact ⟨c0, c1, c2, c3, d0, d1, d2, d3, hbd⟩ | exact hS3.out)
          (first | (go_at_call 54; refine (eqI_any ky ti bo da _).mono ?_; rintro e w3 ⟨rfl, hb3⟩; have hS3 := Lib.hid (keep8 (W := w) (w2 := wr.drew) (b := b) (b' := b') (i := o + k * 4) (i' := o' + k * 4) (x0 := .string ky) (x1 := .string ti) (x2 := .string bo) (x3 := .int .i64 da) (y0 := .string ky) (y1 := .string ti) (y2 := .string bo) (y3 := .int .i64 da) hb hb' hb3 c0 c1 c2 c3 d0 d1 d2 d3 hbd)))
        go_split_ands
        rename Hid (Below w.heap.size w _) => hS
        go_wp2
        go_roundw
        case rel => exact ⟨k + 1, by omega, by go_num, hS⟩
        case measure => simp [intOf]; omega
      · go_wp2
        go_ret
        exact ⟨rfl, hbr.out⟩
set_option maxRecDepth 100000 in
set_option maxHeartbeats 4000000 in
theorem sameF_any (v v' : Value) (L : List It) (w : World) (h : RdG encI w v L) (h' : RdG encI w v' L) :
    Calls Try.prog 14 #[v, v'] w (Quiet (.bool true) w) := by
  by_cases hL : L = []
  · subst hL
    obtain ⟨A, c, rfl, hc⟩ := h.nil
    obtain ⟨A', c', rfl, hc'⟩ := h'.nil
    go_enter Try.func14, Try.ntmps14
    go_wp2
    refine wp_loop_rounds 1 ?_
    rw [rounds_succ]; go_wp2
    go_ret
    exact ⟨rfl, 0, rfl⟩
  · obtain ⟨b, o, c, rfl, h1, h2, hb, h4⟩ := h.some hL
    obtain ⟨b', o', c', rfl, h1', h2', hb', h4'⟩ := h'.some hL
    unfold maxLen at h2 h2'
    have hcells := Lib.hid (fun k (hk : k < L.length) => rdI_cells h4 hk)
    have hcells' := Lib.hid (fun k (hk : k < L.length) => rdI_cells h4' hk)
    clear h4 h4' hL
    have t0 : ((L.length : Int) == (L.length : Int)) = true := by simp
    go_enter Try.func14, Try.ntmps14
    go_wp2
    go_loopw [5] (fun i wr => ∃ k : Nat, k ≤ L.length ∧ i = .int .i64 k ∧ Hid (∃ m, wr = w.drewN m)) (fun i _ => L.length - (intOf i).toNat)
    case atStart => exact ⟨0, Nat.zero_le _, rfl, Lib.hid ⟨0, rfl⟩⟩
    case round =>
      obtain ⟨k, hk, rfl, hw⟩ := hrel
      by_cases hlt : k < L.length
      · have hbel : Below w.heap.size w wr := by obtain ⟨m, hm⟩ := hw.out; rw [hm]; exact below_drewN w m
        obtain ⟨c0, c1, c2, c3⟩ := rdI_at hcells.out hb hbel hlt
        obtain ⟨d0, d1, d2, d3⟩ := rdI_at hcells'.out hb' hbel hlt
        obtain ⟨e, he⟩ : ∃ e, L[k] = e := ⟨_, rfl⟩
        rw [he] at c0 c1 c2 c3 d0 d1 d2 d3
        obtain ⟨ky, ti, bo, da⟩ := e
        simp only at c0 c1 c2 c3 d0 d1 d2 d3
        have hj0 : (0 : Int) ≤ (k : Int) := by omega
        have hjj : (k : Int) < (L.length : Int) := by omega
        have q1 := str_same (a := ky) (b := ky) rfl
        have q2 := str_same (a := ti) (b := ti) rfl
        have q3 := str_same (a := bo) (b := bo) rfl
        clear he hbel
        go_wp2
        go_quiet (fail)
        go_wp2
        go_roundw
        case rel => exact ⟨k + 1, by omega, by go_num, Lib.hid (by obtain ⟨m, hm⟩ := hw.out; exact ⟨_, by rw [hm, drewN_add]⟩)⟩
        case measure => simp [intOf]; omega
      · go_wp2
        go_ret
        exact ⟨rfl, hw.out⟩
end Go.Proofs.Ytbljpbmpfmnemaa
