/-
  The verifier's own text: ArgG.
-/
import Derived.Test.YtoiglenodiomhaaRows
import Derived.Test.YtoiglenodiomhaaRdG
import Derived.Deep.Slices
import Derived.Deep.Fields
import Derived.WalkKit
import Derived.ProofKit
import Derived.Below
import Derived.Lib.Hide
import Derived.Outline
import Derived.BigQuiet
import Derived.Deep.QuietTactic
import Derived.Deep.Draws
import Derived.Laws.OwnMore
import Derived.Laws.Rows
import Derived.WalkSpells
import Derived.Deep.RegionWith
namespace Go.Proofs.Ytoiglenodiomhaa
open Go.RowKit
set_option linter.unusedVariables false
theorem pick_list {α : Type} {Q : Nat → α → Prop} : ∀ (n : Nat), (∀ i, i < n → ∃ y, Q i y) → ∃ L : List α, L.length = n ∧ ∀ i (hi : i < L.length), Q i L[i] := by
  intro n
  induction n with
  | zero => intro _; exact ⟨[], rfl, by intro i hi; simp at hi⟩
  | succ n ih =>
    intro h
    obtain ⟨L, hl, hq⟩ := ih (fun i hi => h i (by omega))
    obtain ⟨y, hy⟩ := h n (by omega)
    refine ⟨L ++ [y], by simp [hl], fun i hi => ?_⟩
    by_cases e : i < L.length
    · rw [List.getElem_append_left e]; exact hq i e
    · have e2 : i = L.length := by simp at hi; omega
      subst e2
      rw [List.getElem_append_right (Nat.le_refl _)]
      simp only [Nat.sub_self, List.getElem_cons_zero]
      rw [hl]; exact hy
theorem add_add_lit (b o p q : Nat) : ((⟨b, o, none⟩ : Addr).add p).add q = ⟨b, o + (p + q), none⟩ := by
  unfold Addr.add
  by_cases hp0 : p = 0 <;> by_cases hq0 : q = 0 <;> simp [hp0, hq0, Nat.add_assoc]
/-- an argument that is a slice of structs, as a list -/
theorem rd_arg {α : Type} {enc : α → List Value} {P : Program} {w : World} {H : Type} {en : TypeId × Value → H} {spare : Nat → Bool} {held : Bool} {t e : TypeId} {fuel : Nat} {A : Option Addr} {n c : Nat} {cs : List Value} {x : DataW H × List MemPlace} (size : Nat) (hs0 : 0 < size)
    (ht : P.underlying t = some (.slice e)) (hC : P.cellsOf e = size) (he : ∀ y, (enc y).length = size) (good : α → Prop) (hel : ∀ m cs' x', DataW.trod en P w 0 spare held m e cs' = some x' → ∃ y, cs' = enc y ∧ good y)
    (hcs : cs = [.slice A n c]) (h : DataW.trod en P w 0 spare held fuel t cs = some x) : ∃ L : List α, L.length = n ∧ RdG enc w (.slice A n c) L ∧ ∀ y ∈ L, good y := by
  subst hcs
  rcases Go.Deep.open_slice ht h with ⟨h0, _⟩ | ⟨a, len, cap, m, n', D, Pl, hcs, hb, hl, hm, hmm, hx, hi⟩
  · simp at h0
    obtain ⟨rfl, rfl, rfl⟩ := h0
    exact ⟨[], rfl, ⟨none, 0, rfl, by simp, by simp, .inl rfl⟩, by intro y m; simp at m⟩
  · simp at hcs
    obtain ⟨rfl, rfl, rfl⟩ := hcs
    have hle : n ≤ m := by rw [hmm]; split <;> omega
    obtain ⟨L, hL, hq⟩ := pick_list (Q := fun i y => w.cells? 0 (a.add (i * size)) size = some (enc y) ∧ good y) n (fun i hin => by
      obtain ⟨cs', h1, h2⟩ := hi i (by omega)
      rw [hC] at h1
      obtain ⟨y, hy, hg⟩ := hel _ _ _ h2
      exact ⟨y, by rw [← hy]; exact h1, hg⟩)
    refine ⟨L, hL, ⟨some a, c, by rw [hL], by omega, hm, ?_⟩, fun y hy => ?_⟩
    · by_cases h0 : L = []
      · exact .inl h0
      · right
        have hp : 0 < L.length := List.length_pos_iff.2 h0
        have hcell : ∀ k (hk : k < L.length) r, r < size → w.cell? ((a.add (k * size)).add r) = (enc L[k])[r]? := fun k hk r hr => (World.cells?_some (hq k hk).1).2.2 r hr
        obtain ⟨u, hu⟩ : ∃ u, (enc (L[0]'hp))[0]? = some u := ⟨(enc (L[0]'hp))[0]'(by rw [he]; exact hs0), List.getElem?_eq_getElem _⟩
        have h00 := hcell 0 hp 0 hs0
        rw [hu] at h00
        have ha0 : (a.add (0 * size)).add 0 = a := by simp [Addr.add]
        rw [ha0] at h00
        have hsp : a.spot = none := World.cell?_spot h00
        obtain ⟨b, o, sp⟩ := a
        simp only at hsp
        subst hsp
        refine ⟨b, o, rfl, World.block_lt_of_cell? w _ h00, fun j u hj => ?_⟩
        have hj2 : j < L.length * size := by rw [← flat_len he L]; exact (List.getElem?_eq_some_iff.1 hj).1
        have hk : j / size < L.length := Nat.div_lt_of_lt_mul (by rw [Nat.mul_comm]; exact hj2)
        have hr : j % size < size := Nat.mod_lt _ hs0
        have hjd : j / size * size + j % size = j := by rw [Nat.mul_comm]; exact Nat.div_add_mod j size
        have := hcell (j / size) hk (j % size) hr
        have e1 := add_add_lit b o (j / size * size) (j % size)
        rw [hjd] at e1
        rw [e1, ← flat_get he L _ hk _ hr, hjd, hj] at this
        exact this
    · obtain ⟨i, hi2, rfl⟩ := List.getElem_of_mem hy
      exact (hq i hi2).2
end Go.Proofs.Ytoiglenodiomhaa
