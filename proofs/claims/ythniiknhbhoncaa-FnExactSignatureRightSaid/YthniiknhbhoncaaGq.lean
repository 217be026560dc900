/-
  The verifier's own text: FeedMath FeedWM FeedS FeedWS OwnS FeedLS RowG SliceG.
-/
import Derived.Test.YthniiknhbhoncaaRows
import Derived.Test.YthniiknhbhoncaaGn
import Derived.Test.YthniiknhbhoncaaGo
import Derived.Test.YthniiknhbhoncaaGb
import Derived.Test.YthniiknhbhoncaaGa
import Derived.WalkKit
import Derived.ProofKit
import Derived.Below
import Derived.Lib.Hide
import Derived.Outline
import Derived.BigQuiet
import Derived.Deep.QuietTactic
import Derived.Deep.Draws
import Derived.Laws.OwnMore
import Derived.Laws.Rows
import Derived.WalkSpells
import Derived.Deep.RegionWith
namespace Go.Proofs.Ythniiknhbhoncaa
open Go.RowKit
set_option linter.unusedVariables false
/-- a feed: at most eight items, all valid, with different keys -/
def fdB (L : List It) : Bool := decide (L.length ≤ 8) && L.all itB && decide ((L.map It.key).Nodup)
theorem fdB_of {L : List It} (h : fdB L = true) : L.length ≤ 8 ∧ (∀ i ∈ L, itB i = true) ∧ (L.map It.key).Nodup := by
  unfold fdB at h; simp only [Bool.and_eq_true, decide_eq_true_eq, List.all_eq_true] at h; exact ⟨h.1.1, h.1.2, h.2⟩
theorem fdB_mk {L : List It} (a : L.length ≤ 8) (b : ∀ i ∈ L, itB i = true) (c : (L.map It.key).Nodup) : fdB L = true := by
  unfold fdB; simp only [Bool.and_eq_true, decide_eq_true_eq, List.all_eq_true]; exact ⟨⟨a, b⟩, c⟩
theorem fdB_item {L : List It} {k : Nat} (h : k < L.length) (b : itB L[k] = false) : fdB L = false := by
  rcases q : fdB L with _ | _
  · rfl
  · have := (fdB_of q).2.1 _ (List.getElem_mem h); rw [b] at this; cases this
theorem fdB_twice {L : List It} {j k : Nat} (hj : j < k) (h : k < L.length) (e : L[j].key = L[k].key) : fdB L = false := by
  rcases q : fdB L with _ | _
  · rfl
  · have hn := (fdB_of q).2.2
    have := (List.pairwise_iff_getElem.1 hn) j k (by rw [List.length_map]; omega) (by rw [List.length_map]; omega) hj
    rw [List.getElem_map, List.getElem_map] at this
    exact absurd e this
/-- the first k are well -/
def PreF (L : List It) (k : Nat) : Prop := (∀ i ∈ L.take k, itB i = true) ∧ ((L.take k).map It.key).Nodup
theorem preF_zero (L : List It) : PreF L 0 := ⟨by simp, by simp⟩
theorem preF_next {L : List It} {k : Nat} (h : k < L.length) (p : PreF L k) (b : itB L[k] = true) (d : ∀ j (hj : j < k), (L[j]'(by omega)).key ≠ L[k].key) : PreF L (k + 1) := by
  have e : L.take (k + 1) = L.take k ++ [L[k]] := List.take_succ_eq_append_getElem h
  refine ⟨fun i m => ?_, ?_⟩
  · rw [e] at m
    rcases List.mem_append.1 m with m | m
    · exact p.1 i m
    · have : i = L[k] := by simpa using m
      rw [this]; exact b
  · rw [e, List.map_append, List.nodup_append]
    refine ⟨p.2, by simp, fun a ha c hc => ?_⟩
    have hc' : c = L[k].key := by simpa using hc
    obtain ⟨i, hi, rfl⟩ := List.mem_map.1 ha
    obtain ⟨j, hj, rfl⟩ := List.getElem_of_mem hi
    have hjk : j < k := by rw [List.length_take] at hj; omega
    rw [List.getElem_take, hc']
    exact d j hjk
theorem preF_end {L : List It} {k : Nat} (h : L.length ≤ k) (p : PreF L k) : decide ((L.length : Int) ≤ 8) = fdB L := by
  unfold PreF at p
  rw [List.take_of_length_le h] at p
  by_cases a : L.length ≤ 8
  · rw [fdB_mk a p.1 p.2]; exact decide_eq_true (by omega)
  · rcases q : fdB L with _ | _
    · exact decide_eq_false (by omega)
    · exact absurd (fdB_of q).1 a
/-- the first item with a key -/
def itW1 : List It → ByteArray → It × Bool
  | [], _ => (It.zero, false)
  | i :: L, n => if i.key = n then (i, true) else itW1 L n
def itW (L : List It) (n : ByteArray) : It × Bool := if fdB L then itW1 L n else (It.zero, false)
theorem itW_in {L : List It} (n : ByteArray) (h : fdB L = true) : itW L n = itW1 L n := by simp [itW, h]
theorem itW_out {L : List It} (n : ByteArray) (h : fdB L = false) : itW L n = (It.zero, false) := by simp [itW, h]
theorem itW1_at {L : List It} {n : ByteArray} {k : Nat} (hk : k < L.length) (h : ∀ i (hi : i < L.length), i < k → L[i].key ≠ n) (e : L[k].key = n) : itW1 L n = (L[k], true) := by
  induction L generalizing k with
  | nil => simp at hk
  | cons a L ih =>
    cases k with
    | zero => simp only [List.getElem_cons_zero] at e ⊢; simp [itW1, e]
    | succ k =>
      have h0 : a.key ≠ n := h 0 (by simp) (by omega)
      simp only [itW1, h0, if_false]
      have := ih (k := k) (by simpa using hk) (fun i hi hik => by have := h (i + 1) (by simpa using hi) (by omega); simpa using this) (by simpa using e)
      rw [this]; rfl
theorem itW1_none {L : List It} {n : ByteArray} (h : ∀ i (hi : i < L.length), L[i].key ≠ n) : itW1 L n = (It.zero, false) := by
  induction L with
  | nil => rfl
  | cons a L ih =>
    have h0 : a.key ≠ n := h 0 (by simp)
    simp only [itW1, h0, if_false]
    exact ih (fun i hi => by have := h (i + 1) (by simpa using hi); simpa using this)
/-- the cells of an item -/
def encI (i : It) : List Value := [.string i.key, .string i.title, .string i.body, .int .i64 i.day]
theorem encI_len (i : It) : (encI i).length = 4 := rfl
def FitF (L : List It) : Prop := ∀ i ∈ L, FitI i
theorem rdI_cells {w : World} {b o : Nat} {L : List It} (h : ∀ j u, (L.flatMap encI)[j]? = some u → w.cell? ⟨b, o + j, none⟩ = some u) {k : Nat} (hk : k < L.length) :
    w.cell? ⟨b, o + k * 4, none⟩ = some (.string L[k].key) ∧ w.cell? ⟨b, o + k * 4 + 1, none⟩ = some (.string L[k].title) ∧ w.cell? ⟨b, o + k * 4 + 2, none⟩ = some (.string L[k].body) ∧ w.cell? ⟨b, o + k * 4 + 3, none⟩ = some (.int .i64 L[k].day) := by
  refine ⟨?_, ?_, ?_, ?_⟩
  · exact h (k * 4) _ (flat_get encI_len L k hk 0 (by omega))
  · have := h (k * 4 + 1) _ (flat_get encI_len L k hk 1 (by omega)); rw [← Nat.add_assoc] at this; exact this
  · have := h (k * 4 + 2) _ (flat_get encI_len L k hk 2 (by omega)); rw [← Nat.add_assoc] at this; exact this
  · have := h (k * 4 + 3) _ (flat_get encI_len L k hk 3 (by omega)); rw [← Nat.add_assoc] at this; exact this
theorem rdI_at {w wr : World} {b o : Nat} {L : List It} (h : ∀ k (hk : k < L.length), w.cell? ⟨b, o + k * 4, none⟩ = some (.string L[k].key) ∧ w.cell? ⟨b, o + k * 4 + 1, none⟩ = some (.string L[k].title) ∧ w.cell? ⟨b, o + k * 4 + 2, none⟩ = some (.string L[k].body) ∧ w.cell? ⟨b, o + k * 4 + 3, none⟩ = some (.int .i64 L[k].day)) (hb : b < w.heap.size) (hB : Below w.heap.size w wr) {k : Nat} (hk : k < L.length) :
    wr.cell? ⟨b, o + k * 4, none⟩ = some (.string L[k].key) ∧ wr.cell? ⟨b, o + k * 4 + 1, none⟩ = some (.string L[k].title) ∧ wr.cell? ⟨b, o + k * 4 + 2, none⟩ = some (.string L[k].body) ∧ wr.cell? ⟨b, o + k * 4 + 3, none⟩ = some (.int .i64 L[k].day) := by
  obtain ⟨a, c, d, e⟩ := h k hk
  exact ⟨by rw [hB.cell (p := ⟨b, o + k * 4, none⟩) hb]; exact a, by rw [hB.cell (p := ⟨b, o + k * 4 + 1, none⟩) hb]; exact c, by rw [hB.cell (p := ⟨b, o + k * 4 + 2, none⟩) hb]; exact d, by rw [hB.cell (p := ⟨b, o + k * 4 + 3, none⟩) hb]; exact e⟩
/-- an item and whether there is one -/
def GotIW (p : It × Bool) (w : World) (e : Ending) (w' : World) : Prop := e = .returned (.tuple #[.agg #[.string p.1.key, .string p.1.title, .string p.1.body, .int .i64 p.1.day], .bool p.2]) ∧ Below w.heap.size w w'
/-- a list of texts in memory -/
def encS (s : ByteArray) : List Value := [.string s]
theorem encS_len (s : ByteArray) : (encS s).length = 1 := rfl
theorem encS_one (s : ByteArray) (u : Value) (h : u ∈ encS s) : u.oneCell' = true := by
  simp [encS] at h; subst h; rfl
theorem infoS : (Try.prog.info? 9).map (fun i => (i.zero, i.size, i.bytes)) = some (some (.string ⟨#[]⟩), 1, 16) := by kernel_rfl
def OwnS (w : World) (B : Nat) (v : Value) (L : List ByteArray) : Prop := OwnG 9 1 encS w B v L
theorem app_str {ops : Array Oper} {rest : List Oper} {o : Oper} {a : Act} {Q : Exit → Act → World → Prop} {w : World} (hgd : o.guard = none) (s x : Operand)
    (ho : o.op = .call { callee := .builtin .append, args := #[s, x], argTypes := #[66, 66] }) (B : Nat) (v : Value) (L : List ByteArray) (t : ByteArray) (hs : a.eval s = v)
    (hown : OwnS w B v L) (hB : B ≤ w.heap.size) (g : Nat) (hgz : w.heap.size = g) (hx : a.eval x = .slice (some ⟨g, 0, none⟩) 1 1) (hl : L.length ≤ 1073741824)
    (h : ∀ v' w', OwnS w' B v' (L ++ [t]) → w.grownBy w' v.ownBlock → wpList Try.prog ops Q rest (a.put o.dst v') w') : wpList Try.prog ops Q (o :: rest) a (w.alloc (.cells #[.string t] 9)) :=
  app_gen (enc := encS) hgd s x 66 ho 9 1 16 _ Try.underlying66 infoS rfl (by decide) (by decide) encS_len encS_one B v L t hs hown hB g hgz hx hl h
theorem ownS_empty (w : World) (B : Nat) (h : B ≤ w.heap.size) : OwnS (w.alloc (.cells #[] 9)) B (.slice (some ⟨w.heap.size, 0, none⟩) 0 0) [] := by
  have := World.ownsRow_lit (e := 9) (size := 1) (base := B) w #[] 0 h (by simp) rfl
  exact this
theorem OwnS.shape {w : World} {B : Nat} {v : Value} {L : List ByteArray} (h : OwnS w B v L) : ∃ A c, v = .slice A L.length c := by
  obtain ⟨A, c, hv, _⟩ := OwnG.rd h; exact ⟨A, c, hv⟩
theorem own_below {α : Type} {ty : TypeId} {size : Nat} {enc : α → List Value} {W w w' : World} {v : Value} {L : List α} (hown : OwnG ty size enc w W.heap.size v L) (hb : Below W.heap.size W w) (hg : w.grownBy w' v.ownBlock) : Below W.heap.size W w' :=
  hb.grown hg hb.size (fun k hk => hown.ge k hk)
def fdL (L : List It) : List ByteArray := if fdB L then L.map fun i => bs (itT i) else []
theorem fdL_in {L : List It} (h : fdB L = true) : fdL L = L.map fun i => bs (itT i) := by simp [fdL, h]
theorem fdL_out {L : List It} (h : fdB L = false) : fdL L = [] := by simp [fdL, h]
theorem map_take {α β : Type} (f : α → β) {L : List α} {k : Nat} (h : k < L.length) : (L.take (k + 1)).map f = (L.take k).map f ++ [f L[k]] := by
  rw [List.take_succ_eq_append_getElem h, List.map_append]; rfl
def GotLS (L : List ByteArray) (w : World) (e : Ending) (w' : World) : Prop := ∃ v : Value, e = .returned v ∧ OwnS w' w.heap.size v L ∧ Below w.heap.size w w'
theorem below_row {w w' : World} (h : Below w.heap.size w w') (row : Option Nat) : w.grownBy w' row := ⟨h.os, h.tape, h.output, h.size, fun b hb _ => h.block b hb⟩
theorem row_trans {a b c : World} {row : Option Nat} (h : a.grownBy b row) (k : Below b.heap.size b c) : a.grownBy c row := grown_trans h (below_row k row)
theorem row_set {a b : World} {g : Nat} (h : a.grownBy b (some g)) (o : Nat) (u : Value) : a.grownBy (b.setCell ⟨g, o, none⟩ u) (some g) := grown_trans h (only_setCell' b g o u)
theorem rdG_take {α : Type} {enc : α → List Value} {size : Nat} (he : ∀ x, (enc x).length = size) {w : World} {A : Option Addr} {n c : Nat} {L : List α} (h : RdG enc w (.slice A n c) L) (k : Nat) (hk : k ≤ L.length) (c' : Nat) (hc : k ≤ c') (hc' : c' ≤ maxLen) :
    RdG enc w (.slice A k c') (L.take k) := by
  obtain ⟨A', c2, hv, h1, h2, h3⟩ := h
  obtain ⟨rfl, rfl, rfl⟩ : A = A' ∧ n = L.length ∧ c = c2 := by simpa using hv
  have hl : (L.take k).length = k := by rw [List.length_take]; omega
  refine ⟨A, c', by rw [hl], by rw [hl]; exact hc, hc', ?_⟩
  rcases h3 with rfl | ⟨b, o, rfl, hb, h4⟩
  · exact .inl (by simp)
  · refine .inr ⟨b, o, rfl, hb, fun j u hj => h4 j u ?_⟩
    have h3 : L.flatMap enc = (L.take k).flatMap enc ++ (L.drop k).flatMap enc := by rw [← List.flatMap_append, List.take_append_drop]
    rw [h3, List.getElem?_append_left (List.getElem?_eq_some_iff.1 hj).1]; exact hj
/-- an empty rest, wherever it points -/
theorem rdG_none {α : Type} {enc : α → List Value} {w : World} {A : Option Addr} {c : Nat} {L : List α} (k : Nat) (hk : L.length ≤ k) (hc : c ≤ maxLen) : RdG enc w (.slice A 0 c) (L.drop k) := by
  rw [List.drop_of_length_le hk]
  exact ⟨A, c, by simp, by simp, hc, .inl rfl⟩
end Go.Proofs.Ythniiknhbhoncaa
