/-
  The verifier's own text: DElem DElem2.
-/
import Derived.Test.YtjdllminjpppbaaRows
import Derived.Test.YtjdllminjpppbaaGh
import Derived.Test.YtjdllminjpppbaaGi
import Derived.WalkKit
import Derived.ProofKit
import Derived.Below
import Derived.Lib.Hide
import Derived.Outline
import Derived.BigQuiet
import Derived.Deep.QuietTactic
import Derived.Deep.Draws
import Derived.Laws.OwnMore
import Derived.Laws.Rows
import Derived.WalkSpells
import Derived.Deep.RegionWith
namespace Go.Proofs.Ytjdllminjpppbaa
open Go.RowKit
set_option linter.unusedVariables false
theorem app_el {ops : Array Oper} {rest : List Oper} {o : Oper} {a : Act} {Q : Exit → Act → World → Prop} {w : World} (hgd : o.guard = none) (s x : Operand)
    (ho : o.op = .call { callee := .builtin .append, args := #[s, x], argTypes := #[23, 23] }) (B : Nat) (v : Value) (L : EL) (n t : ByteArray) (hs : a.eval s = v)
    (hown : OwnE w B v L) (hB : B ≤ w.heap.size) (g : Nat) (hgz : w.heap.size = g) (hx : a.eval x = .slice (some ⟨g, 0, none⟩) 1 1) (hl : L.length ≤ 1073741824)
    (h : ∀ v' w', OwnE w' B v' (L ++ [(n, t)]) → w.grownBy w' v.ownBlock → wpList Try.prog ops Q rest (a.put o.dst v') w') : wpList Try.prog ops Q (o :: rest) a (w.alloc (.cells #[.string n, .string t] 27)) :=
  app_gen (enc := encE) hgd s x 23 ho 27 2 32 _ Try.underlying23 infoE rfl (by decide) (by decide) encE_len encE_one B v L (n, t) hs hown hB g hgz hx hl h
theorem step_el {ops : Array Oper} {o : Oper} {a : Act} {K : Act → World → Prop} {Q : Exit → Act → World → Prop} {E : Prop} {w : World} (hgd : o.guard = none) (s x : Operand)
    (ho : o.op = .call { callee := .builtin .append, args := #[s, x], argTypes := #[23, 23] }) (B : Nat) (v : Value) (L : EL) (n t : ByteArray) (hs : a.eval s = v)
    (hown : OwnE w B v L) (hB : B ≤ w.heap.size) (g : Nat) (hgz : w.heap.size = g) (hx : a.eval x = .slice (some ⟨g, 0, none⟩) 1 1) (hl : L.length ≤ 1073741824)
    (h : ∀ v' w', OwnE w' B v' (L ++ [(n, t)]) → w.grownBy w' v.ownBlock → K (a.put o.dst v') w') : if Region.wanted o (yielded ops a.tmps) = true then Oper.wp Try.prog o a (w.alloc (.cells #[.string n, .string t] 27)) K Q else E :=
  step_gen (enc := encE) hgd s x 23 ho 27 2 32 _ Try.underlying23 infoE rfl (by decide) (by decide) encE_len encE_one B v L (n, t) hs hown hB g hgz hx hl h
theorem own_emptyB (w : World) (B : Nat) (h : B ≤ w.heap.size) : OwnE (w.alloc (.cells #[] 27)) B (.slice (some ⟨w.heap.size, 0, none⟩) 0 0) [] := by
  have := World.ownsRow_lit (e := 27) (size := 2) (base := B) w #[] 0 h (by simp) rfl
  exact this
/-- the list's own block lies behind the reader's: an append keeps the reader -/
theorem rd_app {W w w' : World} {g m : Nat} {v : Value} {L : EL} (hr : Rd W w g m) (hown : OwnE w (g + 1) v L) (hg : w.grownBy w' v.ownBlock) : Rd W w' g m :=
  hr.grown hg (fun e => by have := OwnG.ge hown g e.symm; omega) (fun k hk => by have := OwnG.ge hown k hk; have := hr.lo; omega)
theorem of_names (v : Int) (h0 : 0 ≤ v) (h1 : v < 4) : ∃ s : ByteArray, s.size ≤ 5 ∧ (#[Value.string ⟨#[107, 101, 121]⟩, Value.string ⟨#[116, 105, 116, 108, 101]⟩, Value.string ⟨#[98, 111, 100, 121]⟩, Value.string ⟨#[111, 116, 104, 101, 114]⟩] : Array Value)[v.toNat]? = some (.string s) ∧
    (∀ h : v.toNat < [Value.string ⟨#[107, 101, 121]⟩, Value.string ⟨#[116, 105, 116, 108, 101]⟩, Value.string ⟨#[98, 111, 100, 121]⟩, Value.string ⟨#[111, 116, 104, 101, 114]⟩].length, [Value.string ⟨#[107, 101, 121]⟩, Value.string ⟨#[116, 105, 116, 108, 101]⟩, Value.string ⟨#[98, 111, 100, 121]⟩, Value.string ⟨#[111, 116, 104, 101, 114]⟩][v.toNat] = .string s) := by
  obtain rfl | rfl | rfl | rfl : v = 0 ∨ v = 1 ∨ v = 2 ∨ v = 3 := by omega
  all_goals exact ⟨_, by decide, rfl, fun _ => rfl⟩
def ShortE (L : EL) : Prop := ∀ x ∈ L, x.1.size ≤ 81 ∧ x.2.size ≤ 81
theorem short_snoc {L : EL} {n t : ByteArray} (h : ShortE L) (h1 : n.size ≤ 81) (h2 : t.size ≤ 81) : ShortE (L ++ [(n, t)]) := by
  intro x m
  rcases List.mem_append.1 m with m | m
  · exact h x m
  · have : x = (n, t) := by simpa using m
    subst this; exact ⟨h1, h2⟩
theorem fit_short {L : EL} (h : ShortE L) : FitE L := fun e m => by have := h e m; omega
/-- elements, in memory behind the reader's -/
def DrewEl (W : World) (g m : Nat) (e : Ending) (w' : World) : Prop := ∃ (v : Value) (L : EL), e = .returned v ∧ L.length ≤ 9 ∧ ShortE L ∧ OwnE w' (g + 1) v L ∧ Rd W w' g m
set_option maxRecDepth 100000 in
set_option maxHeartbeats 4000000 in
theorem elems_draw (W w : World) (g m : Nat) (n : Int) (h : Rd W w g m) (hm : m ≤ 800000) (hn1 : -1000000 ≤ n) (hn2 : n ≤ 1000000) :
    Calls Try.prog 30 #[.pointer (some ⟨g, 0, none⟩), .int .i64 n] w (DrewEl W g (m + 20)) := by
  have hlt := h.lt
  go_enter Try.func30, Try.ntmps30
  go_wp2_with fail
  refine (pick_any W _ g m 5 (h.alloc _) (by omega)).mono ?_
  rintro e w3 ⟨v, a3, b3, _, rfl, hr3, hg3⟩
  have b3 := b3 (by omega)
  have hown0 := Lib.hid (OwnG.row (own_emptyB w (g + 1) hlt) hg3 (fun k e => by cases e; omega))
  obtain ⟨j, rfl⟩ : ∃ j : Nat, v = j := ⟨v.toNat, by omega⟩
  have hj : j ≤ 4 := by omega
  have hr3' := Lib.hid (hr3.more (m' := m + 1 + 3 * (4 - j)) (by omega))
  clear a3 b3 hg3 hr3
  go_wp2
  go_loopw [5, 6] (fun x i wr => ∃ (k : Nat) (L : EL) (y : Value), k ≤ 4 ∧ i = .int .i64 k ∧ y = x ∧ L.length + k ≤ 4 ∧ Hid (ShortE L) ∧ Hid (OwnE wr (g + 1) y L) ∧ Hid (Rd W wr g (m + 1 + 3 * (4 - k)))) (fun _ i _ => (intOf i).toNat)
  case atStart => exact ⟨j, [], _, hj, rfl, rfl, by simp; omega, Lib.hid (by intro x m; simp at m), hown0, hr3'⟩
  case round =>
    obtain ⟨k, L, y, hk, rfl, rfl, hl, hsh, hown, hr⟩ := hrel
    obtain ⟨A, c, rfl⟩ := OwnE.shape hown.out
    by_cases h0 : k = 0
    · subst h0
      have hr' := hr.out.more (m' := m + 13) (by omega)
      have hlt' := hr'.lt
      have hl4 : L.length ≤ 4 := by omega
      clear hl hr
      go_wp2_with fail
      refine (odd_any W _ g (m + 13) n hr' (by omega) hn1 hn2).mono ?_
      rintro e w5 ⟨b, rfl, hr5, hg5⟩
      have hown5 := Lib.hid (OwnG.row hown.out hg5 (fun k e => by cases e; omega))
      have hlt5 := hr5.lt
      clear hg5
      rcases b with _ | _
      · go_wp2
        go_ret
        exact ⟨_, L, rfl, by omega, hsh.out, hown5.out, hr5.more (by omega)⟩
      · go_wp2_with fail
        refine (pick_any W _ g (m + 14) 3 hr5 (by omega)).mono ?_
        rintro e w6 ⟨v6, a6, b6, _, rfl, hr6, hg6⟩
        have b6 := b6 (by omega)
        have hown6 := Lib.hid (OwnG.row hown5.out hg6 (fun k e => by cases e; omega))
        have hlt6 := hr6.lt
        clear hg6
        obtain rfl | rfl | rfl : v6 = 0 ∨ v6 = 1 ∨ v6 = 2 := by omega
        · go_wp2_with fail
          refine (word_draw W _ g (m + 15) 1 hr6 (by omega) (by omega) (by omega)).mono ?_
          rintro e w7 ⟨s7, hs7, rfl, hr7, hg7⟩
          have hown7 := Lib.hid (OwnG.row hown6.out hg7 (fun k e => by cases e; omega))
          have hlt7 := hr7.lt
          clear hg7
          go_wp2_with (at_builtin; refine app_el rfl (.tmp 32) (.tmp 36) rfl (g + 1) _ L s7 ⟨#[]⟩ rfl hown7.out hlt7 _ rfl rfl (by omega) ?_; intro v8 w8 hown8 hg8; have hr8 := Lib.hid (rd_app hr7 hown7.out hg8); have hown8 := Lib.hid hown8; clear hg8)
          go_ret
          exact ⟨v8, L ++ [(s7, ⟨#[]⟩)], rfl, by simp; omega, short_snoc hsh.out (by omega) (by decide), hown8.out, hr8.out.more (by omega)⟩
        · go_wp2_with fail
          refine (text_draw W _ g (m + 15) 1 hr6 (by omega) (by omega) (by omega)).mono ?_
          rintro e w7 ⟨s7, hs7, rfl, hr7, hg7⟩
          have hown7 := Lib.hid (OwnG.row hown6.out hg7 (fun k e => by cases e; omega))
          have hlt7 := hr7.lt
          clear hg7
          go_wp2_with (at_builtin; refine app_el rfl (.tmp 40) (.tmp 44) rfl (g + 1) _ L ⟨#[97]⟩ s7 rfl hown7.out hlt7 _ rfl rfl (by omega) ?_; intro v8 w8 hown8 hg8; have hr8 := Lib.hid (rd_app hr7 hown7.out hg8); have hown8 := Lib.hid hown8; clear hg8)
          go_ret
          exact ⟨v8, L ++ [(⟨#[97]⟩, s7)], rfl, by simp; omega, short_snoc hsh.out (by decide) hs7, hown8.out, hr8.out.more (by omega)⟩
        · go_wp2
          have hr6' := Lib.hid hr6
          clear hr6 hr5 hr' hlt' hlt5 hlt6 hown hown5
          go_loopw [5] (fun x wr => ∃ (M : EL) (y : Value), y = x ∧ M.length ≤ 9 ∧ Hid (ShortE M) ∧ Hid (OwnE wr (g + 1) y M) ∧ Hid (Rd W wr g (m + 15))) (fun x _ => 9 - (match x with | .slice _ n _ => n | _ => 0))
          case atStart => exact ⟨L, _, rfl, by omega, hsh, hown6, hr6'⟩
          case round =>
            obtain ⟨M, y, rfl, hM, hshM, hownM, hrM⟩ := hrel
            obtain ⟨A, c, rfl⟩ := OwnE.shape hownM.out
            have hltM := hrM.out.lt
            by_cases h9 : M.length ≤ 8
            · have t9 : decide ((M.length : Int) ≤ 8) = true := decide_eq_true (by omega)
              have HL : Hid ((M ++ [((⟨#[97]⟩ : ByteArray), (⟨#[]⟩ : ByteArray))]).length ≤ 9) := Lib.hid (by simp; omega)
              go_wp2_with (at_builtin; refine app_el rfl (.tmp 49) (.tmp 51) rfl (g + 1) _ M ⟨#[97]⟩ ⟨#[]⟩ rfl hownM.out hltM _ rfl rfl (by omega) ?_; intro v8 w8 hown8 hg8; have hr8 := Lib.hid (rd_app hrM.out hownM.out hg8); have hsp := OwnE.shape hown8; have hown8 := Lib.hid hown8; clear hg8)
              obtain ⟨A2, c2, rfl⟩ := hsp
              go_roundw
              case rel => exact ⟨M ++ [(⟨#[97]⟩, ⟨#[]⟩)], _, rfl, HL.out, Lib.hid (short_snoc hshM.out (by decide) (by decide)), hown8, hr8⟩
              case measure => simp; omega
            · have t9 : decide ((M.length : Int) ≤ 8) = false := decide_eq_false (by omega)
              go_wp2
              go_ret
              exact ⟨_, M, rfl, hM, hshM.out, hownM.out, hrM.out.more (by omega)⟩
    · have hpos : 0 < k := by omega
      have hr' := hr.out
      have hlt' := hr'.lt
      go_wp2_with fail
      go_region_law (first
        | (refine step_el rfl (.tmp 14) (.tmp 23) rfl (g + 1) _ L s4 s5 rfl (by first | exact hown5.out | exact OwnG.grown hown5.out ((Below.refl _ _).alloc (Nat.le_refl _) _)) (by first | exact hlt5 | (simp; omega)) _ (by first | rfl | simp) rfl (by omega) ?_; intro v6 w6 hown6 hg6; have hr6 : Hid (Rd W w6 g (m + 1 + 3 * (4 - k) + 1 + 2)) := Lib.hid (by first | exact rd_app hr5 hown5.out hg6 | exact rd_app (hr5.alloc _) (OwnG.grown hown5.out ((Below.refl _ _).alloc (Nat.le_refl _) _)) hg6); have hown6 := Lib.hid hown6; clear hg6)
        | (go_simp; go_at_call 42; ((with_reducible refine (pick_any W _ g (m + 1 + 3 * (4 - k)) 4 (by first | exact hr'.drew | exact (hr'.alloc _).drew | exact hr'.drew.alloc _) (by omega)).mono ?_); rintro e w4 ⟨v4, a4, b4, _, rfl, hr4, hg4⟩; have b4 := b4 (by omega); obtain ⟨s4, hs4, hel, hel'⟩ := of_names v4 a4 b4; have hlt4 := hr4.lt; have hown4 : Hid (OwnE w4 (g + 1) (.slice A L.length c) L) := Lib.hid (by first | exact OwnG.row (w := wr.drew) hown.out hg4 (fun k e => by cases e; omega) | exact OwnG.row (OwnG.grown hown.out (Below.drew ((Below.refl _ _).alloc (Nat.le_refl _) _))) hg4 (fun k e => by cases e; omega)); (first | (have k1 := kept_one hg4 hlt' v4.toNat; rw [hel] at k1; have z1 : wr.heap.size < w4.heap.size := by (have := hg4.size; simp at this; omega)) | skip); clear hg4); dsimp only)
        | (go_simp; go_at_call 48; ((with_reducible refine (text_draw W _ g (m + 1 + 3 * (4 - k) + 1) 0 (by first | exact hr4 | exact hr4.alloc _) (by omega) (by omega) (by omega)).mono ?_); rintro e w5 ⟨s5, hs5, rfl, hr5, hg5⟩; have hlt5 := hr5.lt; have hown5 : Hid (OwnE w5 (g + 1) (.slice A L.length c) L) := Lib.hid (by first | exact OwnG.row hown4.out hg5 (fun k e => by cases e; omega) | exact OwnG.row (OwnG.grown hown4.out ((Below.refl _ _).alloc (Nat.le_refl _) _)) hg5 (fun k e => by cases e; omega)); (first | (have k2 := kept_cell hg5 wr.heap.size v4.toNat (by omega) z1; rw [k1] at k2) | (have k2 := cell_kept hg5 hlt4 v4.toNat; rw [hel] at k2) | skip); clear hg5); dsimp only))
      all_goals
        go_wp2
        go_roundw
        case rel => exact ⟨k - 1, L ++ [(s4, s5)], _, by omega, by go_num, rfl, by simp; omega, Lib.hid (short_snoc hsh.out (by omega) hs5), hown6, Lib.hid (hr6.out.more (by omega))⟩
        case measure => simp [intOf]; omega
def DrawnEl (w : World) (e : Ending) (w' : World) : Prop := ∃ (v : Value) (L : EL), e = .returned v ∧ L.length ≤ 9 ∧ ShortE L ∧ OwnE w' w.heap.size v L ∧ Below w.heap.size w w'
theorem drawElV_any (w : World) (A : Option Addr) (n c : Nat) (h : CodeArg w A n c) : Calls Try.prog 11 #[.slice A n c] w (DrawnEl w) := by
  go_enter Try.func11, Try.ntmps11
  go_wp2_with (go_at_call 31; refine (open_any w A n c h).mono ?_; rintro e w2 ⟨rfl, hr2⟩)
  refine (elems_draw w w2 w.heap.size 0 2 hr2 (by omega) (by omega) (by omega)).mono ?_
  rintro e w3 ⟨v, L, rfl, h9, hsh, hown, hr3⟩
  go_wp2
  go_ret
  exact ⟨v, L, rfl, h9, hsh, OwnG.base hown (by omega), hr3.bel⟩
theorem drawElT_any (w : World) (A : Option Addr) (n c : Nat) (h : CodeArg w A n c) : Calls Try.prog 15 #[.slice A n c] w (DrawnEl w) := by
  go_enter Try.func15, Try.ntmps15
  go_wp2_with (go_at_call 31; refine (open_any w A n c h).mono ?_; rintro e w2 ⟨rfl, hr2⟩)
  refine (elems_draw w w2 w.heap.size 0 6 hr2 (by omega) (by omega) (by omega)).mono ?_
  rintro e w3 ⟨v, L, rfl, h9, hsh, hown, hr3⟩
  go_wp2
  go_ret
  exact ⟨v, L, rfl, h9, hsh, OwnG.base hown (by omega), hr3.bel⟩
def DrawnElX (w : World) (e : Ending) (w' : World) : Prop := ∃ (v : Value) (L : EL) (n : ByteArray), e = .returned (.tuple #[v, .string n]) ∧ L.length ≤ 9 ∧ n.size ≤ 9 ∧ ShortE L ∧ OwnE w' w.heap.size v L ∧ Below w.heap.size w w'
theorem of_keys (v : Int) (h0 : 0 ≤ v) (h1 : v < 3) : ∃ s : ByteArray, s.size ≤ 9 ∧ (#[Value.string ⟨#[107, 101, 121]⟩, Value.string ⟨#[116, 105, 116, 108, 101]⟩, Value.string ⟨#[110, 111, 110, 101]⟩] : Array Value)[v.toNat]? = some (.string s) ∧
    (∀ h : v.toNat < [Value.string ⟨#[107, 101, 121]⟩, Value.string ⟨#[116, 105, 116, 108, 101]⟩, Value.string ⟨#[110, 111, 110, 101]⟩].length, [Value.string ⟨#[107, 101, 121]⟩, Value.string ⟨#[116, 105, 116, 108, 101]⟩, Value.string ⟨#[110, 111, 110, 101]⟩][v.toNat] = .string s) := by
  obtain rfl | rfl | rfl : v = 0 ∨ v = 1 ∨ v = 2 := by omega
  all_goals exact ⟨_, by decide, rfl, fun _ => rfl⟩
set_option maxRecDepth 100000 in
set_option maxHeartbeats 1000000 in
theorem drawElX_any (w : World) (A : Option Addr) (n c : Nat) (h : CodeArg w A n c) : Calls Try.prog 22 #[.slice A n c] w (DrawnElX w) := by
  go_enter Try.func22, Try.ntmps22
  go_wp2_with (go_at_call 31; refine (open_any w A n c h).mono ?_; rintro e w2 ⟨rfl, hr2⟩)
  refine (elems_draw w w2 w.heap.size 0 9 hr2 (by omega) (by omega) (by omega)).mono ?_
  rintro e w3 ⟨v, L, rfl, h9, hsh, hown, hr3⟩
  have hown := Lib.hid hown
  have hlt3 := hr3.lt
  go_wp2
  go_region_with (go_at_call 42; ((with_reducible refine (pick_any w _ w.heap.size (0 + 20) 3 (by first | exact hr3.drew | exact (hr3.alloc _).drew | exact hr3.drew.alloc _) (by omega)).mono ?_); rintro e w4 ⟨v4, a4, b4, _, rfl, hr4, hg4⟩; have b4 := b4 (by omega); obtain ⟨s4, hs4, hel, hel'⟩ := of_keys v4 a4 b4; have hown4 : Hid (OwnE w4 (w.heap.size + 1) v L) := Lib.hid (by first | exact OwnG.row (w := w3.drew) hown.out hg4 (fun k e => by cases e; omega) | exact OwnG.row (OwnG.grown hown.out (Below.drew ((Below.refl _ _).alloc (Nat.le_refl _) _))) hg4 (fun k e => by cases e; omega)); (first | (have k1 := kept_one hg4 hlt3 v4.toNat; rw [hel] at k1) | skip); clear hg4))
  all_goals
    go_wp2
    go_ret2
    first
      | exact ⟨v, L, s4, rfl, h9, hs4, hsh, OwnG.base hown4.out (by omega), hr4.bel⟩
      | exact ⟨v, L, s4, rfl, h9, hs4, hsh, OwnG.base (OwnG.grown hown4.out ((Below.refl _ _).alloc (Nat.le_refl _) _)) (by omega), hr4.bel.alloc hr4.bel.size _⟩
set_option maxRecDepth 100000 in
set_option maxHeartbeats 1000000 in
theorem drawElR_any (w : World) (A : Option Addr) (n c : Nat) (h : CodeArg w A n c) : Calls Try.prog 20 #[.slice A n c] w (DrawnStr w 5000) := by
  go_enter Try.func20, Try.ntmps20
  go_wp2_with (go_at_call 31; refine (open_any w A n c h).mono ?_; rintro e w2 ⟨rfl, hr2⟩)
  refine (elems_draw w w2 w.heap.size 0 0 hr2 (by omega) (by omega) (by omega)).mono ?_
  rintro e w3 ⟨v, L, rfl, h9, hsh, hown, hr3⟩
  go_wp2_with fail
  refine (elS_text v L _ (OwnG.rd hown) (fit_short hsh)).mono ?_
  rintro e w4 ⟨rfl, mm, rfl⟩
  have hr4 := hr3.drewN mm
  have hs : (bs (elT L)).size ≤ 4008 := by rw [bs_size]; exact elT_len L
  obtain ⟨s, hs'⟩ : ∃ s, bs (elT L) = s := ⟨_, rfl⟩
  rw [hs'] at hs ⊢
  clear hs' hown
  obtain ⟨w5, hw5⟩ : ∃ w5, w3.drewN mm = w5 := ⟨_, rfl⟩
  rw [hw5] at hr4 ⊢
  clear hw5 hr3
  go_wp2_with fail
  refine (odd_any w _ w.heap.size (0 + 20) 3 hr4 (by omega) (by omega) (by omega)).mono ?_
  rintro e w6 ⟨b, rfl, hr6, _⟩
  have z1 : (⟨#[60]⟩ : ByteArray).size = 1 := rfl
  have z2 : (⟨#[32]⟩ : ByteArray).size = 1 := rfl
  have s1 : s.size + (⟨#[60]⟩ : ByteArray).size ≤ 9223372036854775807 := by omega
  have s2 : s.size + (⟨#[32]⟩ : ByteArray).size ≤ 9223372036854775807 := by omega
  have l1 : (s ++ ⟨#[60]⟩ : ByteArray).size ≤ 5000 := by rw [ByteArray.size_append]; omega
  have l2 : (s ++ ⟨#[32]⟩ : ByteArray).size ≤ 5000 := by rw [ByteArray.size_append]; omega
  have L1 := Lib.hid l1
  have L2 := Lib.hid l2
  clear l1 l2 z1 z2
  rcases b with _ | _
  · go_wp2
    go_ret
    exact ⟨_, by omega, rfl, hr6.bel⟩
  · go_wp2_with fail
    refine (pick_any w _ w.heap.size (0 + 20 + 1) 11 (hr6.alloc _) (by omega)).mono ?_
    rintro e w7 ⟨v4, a4, b4, _, rfl, hr7, hg7⟩
    have b4 := b4 (by omega)
    have k0 := cell_kept hg7 hr6.lt
    clear hg7
    obtain rfl | rfl | rfl | rfl | rfl | rfl | rfl | rfl | rfl | rfl | rfl : v4 = 0 ∨ v4 = 1 ∨ v4 = 2 ∨ v4 = 3 ∨ v4 = 4 ∨ v4 = 5 ∨ v4 = 6 ∨ v4 = 7 ∨ v4 = 8 ∨ v4 = 9 ∨ v4 = 10 := by omega
    all_goals
      go_wp2
      go_ret
      first
        | exact ⟨_, by decide, rfl, hr7.bel⟩
        | exact ⟨_, L1.out, rfl, hr7.bel⟩
        | exact ⟨_, L2.out, rfl, hr7.bel⟩
end Go.Proofs.Ytjdllminjpppbaa
