/-
  The verifier's own text: LawS LawS2 ArgF ArgS.
-/
import Derived.Test.YtbljpbmpfmnemaaRows
import Derived.Test.YtbljpbmpfmnemaaGt
import Derived.Test.YtbljpbmpfmnemaaGb
import Derived.Test.YtbljpbmpfmnemaaGa
import Derived.Test.YtbljpbmpfmnemaaGr
import Derived.WalkKit
import Derived.ProofKit
import Derived.Below
import Derived.Lib.Hide
import Derived.Outline
import Derived.BigQuiet
import Derived.Deep.QuietTactic
import Derived.Deep.Draws
import Derived.Laws.OwnMore
import Derived.Laws.Rows
import Derived.WalkSpells
import Derived.Deep.RegionWith
namespace Go.Proofs.Ytbljpbmpfmnemaa
open Go.RowKit
set_option linter.unusedVariables false
def SzS (L : List ByteArray) : Prop := L.length ≤ 1048576 ∧ ∀ s ∈ L, s.size ≤ 1048576
def MaxS (L : List ByteArray) : Prop := ∀ s ∈ L, s.size ≤ maxLen
theorem fit_szS {L : List ByteArray} (h : SzS L) : FitS L := fun s m => by have := h.2 s m; omega
theorem rdS_at {w wr : World} {b o : Nat} {L : List ByteArray} (h : ∀ k (hk : k < L.length), w.cell? ⟨b, o + k, none⟩ = some (.string L[k])) (hb : b < w.heap.size) (hB : Below w.heap.size w wr) {k : Nat} (hk : k < L.length) : wr.cell? ⟨b, o + k, none⟩ = some (.string L[k]) := by
  rw [hB.cell (p := ⟨b, o + k, none⟩) hb]; exact h k hk
theorem made_one (a : Value) (n : Nat) : (madeCells #[a] (n * 1)).toList = (List.replicate n [a]).flatten := by
  induction n with
  | zero => simp [madeCells]
  | succ n ih =>
    rw [List.replicate_succ', List.flatten_append, ← ih]
    unfold madeCells
    rw [Nat.succ_mul, Array.range_succ]
    simp [Nat.mod_one]
def GotOwnS (L : List ByteArray) (w : World) (e : Ending) (w' : World) : Prop := ∃ v : Value, e = .returned v ∧ OwnS w' w.heap.size v L ∧ Below w.heap.size w w'
theorem full_strs {ops : Array Oper} {rest : List Oper} {o : Oper} {a : Act} {Q : Exit → Act → World → Prop} {w : World} (hg : o.guard = none) (l c : Operand) (hop : o.op = Op.makeSlice 37 l c)
    (n : Nat) (hl : a.eval l = .int .i64 n) (hc : a.eval c = .int .i64 n) (hn : n ≤ 1073741824)
    (hK : ∀ w', OwnS w' w.heap.size (.slice (some ⟨w.heap.size, 0, none⟩) n n) (List.replicate n ⟨#[]⟩) → Below w.heap.size w w' → wpList Try.prog ops Q rest (a.put o.dst (.slice (some ⟨w.heap.size, 0, none⟩) n n)) w') : wpList Try.prog ops Q (o :: rest) a w := by
  obtain ⟨i0, hi, hz0, hz1, hz2⟩ := info_parts infoS
  refine wpList_make_full w hg l c 37 hop w.heap.size 9 i0 _ 1 Try.underlying37 hi hz0 hz1 .i64 .i64 n n n hl hc rfl rfl ?_ ?_ (Nat.le_refl _) ?_
  · rw [hz2]; omega
  · unfold maxLen; omega
  · intro w' h1 h2
    refine hK w' ?_ ((Below.refl _ _).grown h2 (Nat.le_refl _) (fun k hk => by cases hk))
    unfold OwnS OwnG
    rw [List.length_replicate, flat_rep]
    have e : (madeCells (Value.string ⟨#[]⟩).cells (n * 1)).toList = (List.replicate n (encS ⟨#[]⟩)).flatten := made_one _ n
    rw [← e]; exact h1
set_option maxRecDepth 100000 in
set_option maxHeartbeats 4000000 in
theorem eqSs_any (v v' : Value) (L : List ByteArray) (w : World) (h : RdG encS w v L) (h' : RdG encS w v' L) :
    Calls Try.prog 37 #[v, v'] w (Quiet (.bool true) w) := by
  by_cases hL : L = []
  · subst hL
    obtain ⟨A, c, rfl, hc⟩ := h.nil
    obtain ⟨A', c', rfl, hc'⟩ := h'.nil
    go_enter Try.func37, Try.ntmps37
    go_wp2
    refine wp_loop_rounds 1 ?_
    rw [rounds_succ]; go_wp2
    go_ret
    exact ⟨rfl, 0, rfl⟩
  · obtain ⟨b, o, c, rfl, h1, h2, hb, h4⟩ := h.some hL
    obtain ⟨b', o', c', rfl, h1', h2', hb', h4'⟩ := h'.some hL
    unfold maxLen at h2 h2'
    have hcells := Lib.hid (fun k (hk : k < L.length) => rdS_cell h4 hk)
    have hcells' := Lib.hid (fun k (hk : k < L.length) => rdS_cell h4' hk)
    clear h4 h4' hL
    have t0 : ((L.length : Int) == (L.length : Int)) = true := by simp
    go_enter Try.func37, Try.ntmps37
    go_wp2
    go_loopw [5] (fun i wr => ∃ k : Nat, k ≤ L.length ∧ i = .int .i64 k ∧ Hid (∃ m, wr = w.drewN m)) (fun i _ => L.length - (intOf i).toNat)
    case atStart => exact ⟨0, Nat.zero_le _, rfl, Lib.hid ⟨0, rfl⟩⟩
    case round =>
      obtain ⟨k, hk, rfl, hw⟩ := hrel
      by_cases hlt : k < L.length
      · have hbel : Below w.heap.size w wr := by obtain ⟨m, hm⟩ := hw.out; rw [hm]; exact below_drewN w m
        have c0 := rdS_at hcells.out hb hbel hlt
        have d0 := rdS_at hcells'.out hb' hbel hlt
        obtain ⟨e, he⟩ : ∃ e, L[k] = e := ⟨_, rfl⟩
        rw [he] at c0 d0
        have hj0 : (0 : Int) ≤ (k : Int) := by omega
        have hjj : (k : Int) < (L.length : Int) := by omega
        have q1 := str_same (a := e) (b := e) rfl
        clear he hbel
        go_wp2
        go_quiet (fail)
        go_wp2
        go_roundw
        case rel => exact ⟨k + 1, by omega, by go_num, Lib.hid (by obtain ⟨m, hm⟩ := hw.out; exact ⟨_, by rw [hm, drewN_add]⟩)⟩
        case measure => simp [intOf]; omega
      · go_wp2
        go_ret
        exact ⟨rfl, hw.out⟩
set_option maxRecDepth 100000 in
set_option maxHeartbeats 4000000 in
theorem sameS_any (v v' : Value) (L : List ByteArray) (w : World) (h : RdG encS w v L) (h' : RdG encS w v' L) :
    Calls Try.prog 27 #[v, v'] w (Quiet (.bool true) w) := by
  by_cases hL : L = []
  · subst hL
    obtain ⟨A, c, rfl, hc⟩ := h.nil
    obtain ⟨A', c', rfl, hc'⟩ := h'.nil
    go_enter Try.func27, Try.ntmps27
    go_wp2
    refine wp_loop_rounds 1 ?_
    rw [rounds_succ]; go_wp2
    go_ret
    exact ⟨rfl, 0, rfl⟩
  · obtain ⟨b, o, c, rfl, h1, h2, hb, h4⟩ := h.some hL
    obtain ⟨b', o', c', rfl, h1', h2', hb', h4'⟩ := h'.some hL
    unfold maxLen at h2 h2'
    have hcells := Lib.hid (fun k (hk : k < L.length) => rdS_cell h4 hk)
    have hcells' := Lib.hid (fun k (hk : k < L.length) => rdS_cell h4' hk)
    clear h4 h4' hL
    have t0 : ((L.length : Int) == (L.length : Int)) = true := by simp
    go_enter Try.func27, Try.ntmps27
    go_wp2
    go_loopw [5] (fun i wr => ∃ k : Nat, k ≤ L.length ∧ i = .int .i64 k ∧ Hid (∃ m, wr = w.drewN m)) (fun i _ => L.length - (intOf i).toNat)
    case atStart => exact ⟨0, Nat.zero_le _, rfl, Lib.hid ⟨0, rfl⟩⟩
    case round =>
      obtain ⟨k, hk, rfl, hw⟩ := hrel
      by_cases hlt : k < L.length
      · have hbel : Below w.heap.size w wr := by obtain ⟨m, hm⟩ := hw.out; rw [hm]; exact below_drewN w m
        have c0 := rdS_at hcells.out hb hbel hlt
        have d0 := rdS_at hcells'.out hb' hbel hlt
        obtain ⟨e, he⟩ : ∃ e, L[k] = e := ⟨_, rfl⟩
        rw [he] at c0 d0
        have hj0 : (0 : Int) ≤ (k : Int) := by omega
        have hjj : (k : Int) < (L.length : Int) := by omega
        have q1 := str_same (a := e) (b := e) rfl
        clear he hbel
        go_wp2
        go_quiet (fail)
        go_wp2
        go_roundw
        case rel => exact ⟨k + 1, by omega, by go_num, Lib.hid (by obtain ⟨m, hm⟩ := hw.out; exact ⟨_, by rw [hm, drewN_add]⟩)⟩
        case measure => simp [intOf]; omega
      · go_wp2
        go_ret
        exact ⟨rfl, hw.out⟩
set_option maxRecDepth 100000 in
theorem elLF {H : Type} {en : TypeId × Value → H} {w : World} {spare : Nat → Bool} {held : Bool} : ∀ m cs' x', DataW.trod en Try.prog w 0 spare held m 56 cs' = some x' → ∃ y : It, cs' = encI y ∧ (y.key.size ≤ maxLen ∧ y.title.size ≤ maxLen ∧ y.body.size ≤ maxLen) := by
  intro m cs x h
  obtain ⟨xs, n, _, _, hlen, hxl, hf⟩ := DataW.trod_struct Try.underlying56 h
  have hC : Try.prog.cellsOf 56 = 4 := by kernel_rfl
  have k9 : Try.prog.cellsOf 9 = 1 := by kernel_rfl
  have k3 : Try.prog.cellsOf 3 = 1 := by kernel_rfl
  rw [hC] at hlen
  match cs, hlen, xs, hxl with
  | [c0, c1, c2, c3], _, [y0, y1, y2, y3], _ =>
    have h0 : DataW.trod en Try.prog w 0 spare held n 9 [c0] = some y0 := by have := hf 0 _ rfl; simpa [k9] using this
    have h1 : DataW.trod en Try.prog w 0 spare held n 9 [c1] = some y1 := by have := hf 1 _ rfl; simpa [k9] using this
    have h2 : DataW.trod en Try.prog w 0 spare held n 9 [c2] = some y2 := by have := hf 2 _ rfl; simpa [k9] using this
    have h3 : DataW.trod en Try.prog w 0 spare held n 3 [c3] = some y3 := by have := hf 3 _ rfl; simpa [k9, k3] using this
    obtain ⟨s0, e0, _, m0⟩ := DataW.trod_string Try.underlying9 h0
    obtain ⟨s1, e1, _, m1⟩ := DataW.trod_string Try.underlying9 h1
    obtain ⟨s2, e2, _, m2⟩ := DataW.trod_string Try.underlying9 h2
    obtain ⟨d, e3, _, m3⟩ := DataW.trod_int Try.underlying3 h3
    simp at e0 e1 e2 e3
    exact ⟨⟨s0, s1, s2, d⟩, by rw [e0, e1, e2, e3]; rfl, m0, m1, m2⟩
/-- an argument of items -/
def ArgFL (w : World) (A : Option Addr) (n c : Nat) (L : List It) : Prop := L.length = n ∧ RdG encI w (.slice A n c) L ∧ MaxF L
set_option maxRecDepth 100000 in
theorem argF {H : Type} {en : TypeId × Value → H} {w : World} {spare : Nat → Bool} {held : Bool} {fuel : Nat} {A : Option Addr} {n c : Nat} {cs : List Value} {x : DataW H × List MemPlace} (hcs : cs = [.slice A n c]) (h : DataW.trod en Try.prog w 0 spare held fuel 40 cs = some x) :
    ∃ L : List It, ArgFL w A n c L :=
  rd_arg 4 (by decide) Try.underlying40 (by kernel_rfl) encI_len _ elLF hcs h
theorem elLS {H : Type} {en : TypeId × Value → H} {w : World} {spare : Nat → Bool} {held : Bool} : ∀ m cs' x', DataW.trod en Try.prog w 0 spare held m 9 cs' = some x' → ∃ y : ByteArray, cs' = encS y ∧ y.size ≤ maxLen := by
  intro m cs x h
  obtain ⟨s0, e0, _, m0⟩ := DataW.trod_string Try.underlying9 h
  exact ⟨s0, by rw [e0]; rfl, m0⟩
/-- an argument of texts -/
def ArgSL (w : World) (A : Option Addr) (n c : Nat) (L : List ByteArray) : Prop := L.length = n ∧ RdG encS w (.slice A n c) L ∧ MaxS L
theorem argS {H : Type} {en : TypeId × Value → H} {w : World} {spare : Nat → Bool} {held : Bool} {fuel : Nat} {A : Option Addr} {n c : Nat} {cs : List Value} {x : DataW H × List MemPlace} (hcs : cs = [.slice A n c]) (h : DataW.trod en Try.prog w 0 spare held fuel 37 cs = some x) :
    ∃ L : List ByteArray, ArgSL w A n c L :=
  rd_arg 1 (by decide) Try.underlying37 (by kernel_rfl) encS_len _ elLS hcs h
end Go.Proofs.Ytbljpbmpfmnemaa
