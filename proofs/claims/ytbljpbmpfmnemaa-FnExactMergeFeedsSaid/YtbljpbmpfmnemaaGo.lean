/-
  The verifier's own text: ItemS ItemTS RItemS LawI ZeroI.
-/
import Derived.Test.YtbljpbmpfmnemaaRows
import Derived.Test.YtbljpbmpfmnemaaGn
import Derived.Test.YtbljpbmpfmnemaaGi
import Derived.Test.YtbljpbmpfmnemaaGc
import Derived.Test.YtbljpbmpfmnemaaGf
import Derived.Test.YtbljpbmpfmnemaaGb
import Derived.Deep.RegionHeld3
import Derived.Test.YtbljpbmpfmnemaaGk
import Derived.Test.YtbljpbmpfmnemaaGg
import Derived.WalkKit
import Derived.ProofKit
import Derived.Below
import Derived.Lib.Hide
import Derived.Outline
import Derived.BigQuiet
import Derived.Deep.QuietTactic
import Derived.Deep.Draws
import Derived.Laws.OwnMore
import Derived.Laws.Rows
import Derived.WalkSpells
import Derived.Deep.RegionWith
namespace Go.Proofs.Ytbljpbmpfmnemaa
open Go.RowKit
set_option linter.unusedVariables false
/-- an item as a value -/
def aggI (i : It) : Value := .agg #[.string i.key, .string i.title, .string i.body, .int .i64 i.day]
def FitI (i : It) : Prop := i.key.size ≤ 100000000 ∧ i.title.size ≤ 100000000 ∧ i.body.size ≤ 100000000
theorem fit_max {n : Nat} (h : n ≤ 100000000) : n ≤ maxLen := by unfold maxLen; omega
theorem fitI_of {i : It} (h : itB i = true) : FitI i := by
  obtain ⟨a, b, _, d, _⟩ := itB_of h
  have h1 := (word_len a).2
  have h2 := textB_len b
  have h3 := textB_len d
  rw [blen] at h1 h2 h3
  exact ⟨by omega, by omega, by omega⟩
set_option maxRecDepth 100000 in
set_option maxHeartbeats 1000000 in
theorem itS_valid (k t b : ByteArray) (d : Int) (w : World) (hf : FitI ⟨k, t, b, d⟩) :
    Calls Try.prog 60 #[.agg #[.string k, .string t, .string b, .int .i64 d]] w (GotB (itB ⟨k, t, b, d⟩) w) := by
  obtain ⟨f1, f2, f3⟩ := hf
  have m1 := fit_max f1
  have m2 := fit_max f2
  have m3 := fit_max f3
  simp only at m1 m2 m3
  clear f1 f2 f3
  have hB := Lib.hid ((Below.refl w.heap.size w).alloc (Nat.le_refl _) (.cells #[.string k, .string t, .string b, .int .i64 d] 30))
  rcases hw : wordB k.data.toList with _ | _
  · have HR := Lib.hid (itB_key (i := ⟨k, t, b, d⟩) hw)
    have HW := Lib.hid hw
    clear hw
    go_enter Try.func60, Try.ntmps60
    go_wp2_with (go_at_call 68; refine (sword_any k _ m1).mono ?_; rintro e w' ⟨rfl, rfl⟩; rw [HW.out])
    go_ret
    exact ⟨ret_bool HR.out.symm, hB.out⟩
  · have HW := Lib.hid hw
    rcases ht : textB t.data.toList with _ | _
    · have HR := Lib.hid (itB_title (i := ⟨k, t, b, d⟩) ht)
      have HT := Lib.hid ht
      clear hw ht
      go_enter Try.func60, Try.ntmps60
      go_wp2_with (first | (go_at_call 68; refine (sword_any k _ m1).mono ?_; rintro e w' ⟨rfl, rfl⟩; rw [HW.out]) | (go_at_call 69; ((with_reducible refine (stext_any t _ m2).mono ?_); rintro e w' ⟨rfl, rfl⟩; rw [HT.out])))
      go_ret
      exact ⟨ret_bool HR.out.symm, hB.out⟩
    · have HT := Lib.hid ht
      by_cases hz : t.size = 0
      · have HR := Lib.hid (itB_empty (i := ⟨k, t, b, d⟩) hz)
        have z := str_nil hz
        clear hw ht hz
        go_enter Try.func60, Try.ntmps60
        go_wp2_with (first | (go_at_call 68; refine (sword_any k _ m1).mono ?_; rintro e w' ⟨rfl, rfl⟩; rw [HW.out]) | (go_at_call 69; ((with_reducible refine (stext_any t _ m2).mono ?_); rintro e w' ⟨rfl, rfl⟩; rw [HT.out])))
        go_ret
        exact ⟨ret_bool HR.out.symm, hB.out⟩
      · have z := str_ne hz
        have z2 := str_full hz
        rcases hb : textB b.data.toList with _ | _
        · have HR := Lib.hid (itB_body (i := ⟨k, t, b, d⟩) hb)
          have HD := Lib.hid hb
          clear hw ht hz hb
          go_enter Try.func60, Try.ntmps60
          go_wp2_with (first | (go_at_call 68; refine (sword_any k _ m1).mono ?_; rintro e w' ⟨rfl, rfl⟩; rw [HW.out]) | (go_at_call 69; ((with_reducible refine (stext_any t _ m2).mono ?_); rintro e w' ⟨rfl, rfl⟩; rw [HT.out])) | (go_at_call 69; ((with_reducible refine (stext_any b _ m3).mono ?_); rintro e w' ⟨rfl, rfl⟩; rw [HD.out])))
          go_ret
          exact ⟨ret_bool HR.out.symm, hB.out⟩
        · have HD := Lib.hid hb
          rcases hd : dayB d with _ | _
          · have HR := Lib.hid (itB_day (i := ⟨k, t, b, d⟩) hd)
            have HE : Hid (bs (dateT d) = bs []) := Lib.hid (by rw [dayT_none hd])
            have y : (bs []).toList = [] := str_nil rfl
            clear hw ht hz hb hd
            go_enter Try.func60, Try.ntmps60
            go_wp2_with (first | (go_at_call 68; refine (sword_any k _ m1).mono ?_; rintro e w' ⟨rfl, rfl⟩; rw [HW.out]) | (go_at_call 69; ((with_reducible refine (stext_any t _ m2).mono ?_); rintro e w' ⟨rfl, rfl⟩; rw [HT.out])) | (go_at_call 69; ((with_reducible refine (stext_any b _ m3).mono ?_); rintro e w' ⟨rfl, rfl⟩; rw [HD.out])) | (go_at_call 70; refine (dateS_any d _).mono ?_; rintro e w2 ⟨rfl, hb2⟩; rw [HE.out]))
            go_ret
            exact ⟨ret_bool HR.out.symm, below_trans' hB.out hb2⟩
          · have HR := Lib.hid (itB_mk (i := ⟨k, t, b, d⟩) hw ht hz hb hd)
            obtain ⟨x, hx⟩ : ∃ x, bs (dateT d) = x := ⟨_, rfl⟩
            have hxs : x.size ≠ 0 := by rw [← hx, bs_size, (dayT_ten hd).1]; omega
            have y := str_ne hxs
            have y2 := str_full hxs
            have HE := Lib.hid hx
            clear hw ht hz hb hd hx hxs
            go_enter Try.func60, Try.ntmps60
            go_wp2_with (first | (go_at_call 68; refine (sword_any k _ m1).mono ?_; rintro e w' ⟨rfl, rfl⟩; rw [HW.out]) | (go_at_call 69; ((with_reducible refine (stext_any t _ m2).mono ?_); rintro e w' ⟨rfl, rfl⟩; rw [HT.out])) | (go_at_call 69; ((with_reducible refine (stext_any b _ m3).mono ?_); rintro e w' ⟨rfl, rfl⟩; rw [HD.out])) | (go_at_call 70; refine (dateS_any d _).mono ?_; rintro e w2 ⟨rfl, hb2⟩; rw [HE.out]))
            go_ret
            exact ⟨ret_bool HR.out.symm, below_trans' hB.out hb2⟩
theorem keep4 {W w2 w3 : World} {g : Nat} {v0 v1 v2 v3 : Value} (hb : Below w2.heap.size w2 w3) (h0 : w2.cell? ⟨g, 0, none⟩ = some v0) (h1 : w2.cell? ⟨g, 1, none⟩ = some v1) (h2 : w2.cell? ⟨g, 2, none⟩ = some v2) (h3 : w2.cell? ⟨g, 3, none⟩ = some v3) (h : Hid (g < w2.heap.size ∧ Below W.heap.size W w2)) :
    w3.cell? ⟨g, 0, none⟩ = some v0 ∧ w3.cell? ⟨g, 1, none⟩ = some v1 ∧ w3.cell? ⟨g, 2, none⟩ = some v2 ∧ w3.cell? ⟨g, 3, none⟩ = some v3 ∧ Hid (g < w3.heap.size ∧ Below W.heap.size W w3) :=
  ⟨by rw [hb.cell (p := ⟨g, 0, none⟩) h.out.1]; exact h0, by rw [hb.cell (p := ⟨g, 1, none⟩) h.out.1]; exact h1, by rw [hb.cell (p := ⟨g, 2, none⟩) h.out.1]; exact h2, by rw [hb.cell (p := ⟨g, 3, none⟩) h.out.1]; exact h3, Lib.hid ⟨Nat.lt_of_lt_of_le h.out.1 hb.size, below_trans' h.out.2 hb⟩⟩
theorem fitE_of' {L : EL} (h : elB L = true) : FitE L := by
  intro e m
  have := okE_of (elB_mem h e m)
  have h1 := (word_len this.1).2
  have h2 := textB_len this.2
  rw [blen] at h1 h2
  omega
/-- an item and whether there is one, in full -/
def GotIR (s : List UInt8) (w : World) (e : Ending) (w' : World) : Prop := ∃ (L : EL) (ok : Bool) (k t b : ByteArray) (d : Int) (z : Bool), RdE s L ok ∧ itR L = (⟨k, t, b, d⟩, z) ∧ e = .returned (.tuple #[.agg #[.string k, .string t, .string b, .int .i64 d], .bool z]) ∧ Below w.heap.size w w'
def nmJ (j : Nat) : ByteArray := if j = 0 then kKey else if j = 1 then kTitle else if j = 2 then kDay else kBody
def chkJ (L : EL) (j : Nat) : Bool := if j = 3 then decide (cntE L (nmJ j) ≤ 1) else decide (cntE L (nmJ j) = 1)
def okJ (ok : Bool) (L : EL) : Nat → Bool
  | 0 => ok
  | j + 1 => okJ ok L j && chkJ L j
theorem okJ_four (ok : Bool) (L : EL) : okJ ok L 4 = (ok && cntOk L) := by
  simp [okJ, chkJ, nmJ, cntOk, Bool.and_assoc]
theorem okJ_bad {ok : Bool} {L : EL} {j : Nat} (h : chkJ L j = false) : okJ ok L (j + 1) = false := by simp [okJ, h]
theorem okJ_good {ok : Bool} {L : EL} {j : Nat} (h : chkJ L j = true) : okJ ok L (j + 1) = okJ ok L j := by simp [okJ, h]
theorem chk_many {L : EL} {j : Nat} (h : 1 < cntE L (nmJ j)) : chkJ L j = false := by unfold chkJ; split <;> simp <;> omega
theorem chk_none {L : EL} {j : Nat} (h : cntE L (nmJ j) = 0) (hj : j < 3) : chkJ L j = false := by
  unfold chkJ; rw [if_neg (by omega), h]; rfl
theorem chk_one {L : EL} {j : Nat} (h : cntE L (nmJ j) = 1) : chkJ L j = true := by unfold chkJ; rw [h]; split <;> rfl
theorem chk_last {L : EL} {j : Nat} (h : cntE L (nmJ j) = 0) (hj : ¬ j < 3) (h4 : j < 4) : chkJ L j = true := by
  unfold chkJ; rw [if_pos (by omega), h]; rfl
theorem nmJ_cells (w : World) (j : Nat) (hj : j < 4) : (w.alloc (.cells #[.string ⟨#[107, 101, 121]⟩, .string ⟨#[116, 105, 116, 108, 101]⟩, .string ⟨#[100, 97, 121]⟩, .string ⟨#[98, 111, 100, 121]⟩] 9)).cell? ⟨w.heap.size, j, none⟩ = some (.string (nmJ j)) := by
  rw [World.cell?_alloc_new]
  obtain rfl | rfl | rfl | rfl : j = 0 ∨ j = 1 ∨ j = 2 ∨ j = 3 := by omega
  all_goals rfl
theorem zero_ret {L : EL} {ok : Bool} {s : List UInt8} (hR : RdE s L ok) (h : okJ ok L 4 = false) : itR L = (It.zero, false) := by
  rw [okJ_four] at h
  rcases ok with _ | _
  · rcases hR with ⟨q, _⟩ | ⟨_, q, _⟩
    · cases q
    · rw [q]; exact itR_nil
  · exact itR_cnt (by simpa using h)
theorem toI_any (k t b : ByteArray) (d : Int) (w : World) :
    Calls Try.prog 53 #[.agg #[.string k, .string t, .string b, .int .i64 d]] w fun e w' => e = .returned (.agg #[.string k, .string t, .string b, .int .i64 d]) ∧ Below w.heap.size w w' := by
  go_enter Try.func53, Try.ntmps53
  go_wp2
  refine bodyPost_ret (v := .agg #[.string k, .string t, .string b, .int .i64 d]) (by simp [results, Try.results53, go_sem]) rfl ⟨rfl, ?_⟩
  repeat (first | exact Below.refl _ _ | refine Below.alloc ?_ (by simp <;> omega) _ | refine Below.setCell ?_ (by simp <;> omega) _)
theorem eqI_any (k t b : ByteArray) (d : Int) (w : World) :
    Calls Try.prog 54 #[.agg #[.string k, .string t, .string b, .int .i64 d], .agg #[.string k, .string t, .string b, .int .i64 d]] w fun e w' => e = .returned (.bool true) ∧ Below w.heap.size w w' := by
  have q1 := str_same (a := k) (b := k) rfl
  have q2 := str_same (a := t) (b := t) rfl
  have q3 := str_same (a := b) (b := b) rfl
  have q4 : (d == d) = true := by simp
  go_enter Try.func54, Try.ntmps54
  go_wp2
  go_ret
  refine ⟨rfl, ?_⟩
  repeat (first | exact Below.refl _ _ | refine Below.alloc ?_ (by simp <;> omega) _ | refine Below.setCell ?_ (by simp <;> omega) _)
def Sz1I (k t b : ByteArray) : Prop := k.size ≤ 1048576 ∧ t.size ≤ 1048576 ∧ b.size ≤ 1048576
theorem szI_any (k t b : ByteArray) (d : Int) (left : Int) (w : World) (hk : k.size ≤ maxLen) (ht : t.size ≤ maxLen) (hb : b.size ≤ maxLen) (h0 : 0 ≤ left) (h1 : left ≤ 1048576) :
    Calls Try.prog 52 #[.agg #[.string k, .string t, .string b, .int .i64 d], .int .i64 left] w (GotSz (Sz1I k t b) left w) := by
  unfold maxLen at hk ht hb
  by_cases a : left - (k.size : Int) < 0
  · go_enter Try.func52, Try.ntmps52
    go_wp2
    go_ret
    exact ⟨-1, rfl, by omega, fun h => absurd h (by omega), (Below.refl _ _).alloc (Nat.le_refl _) _⟩
  · by_cases a2 : left - (k.size : Int) - (t.size : Int) < 0
    · go_enter Try.func52, Try.ntmps52
      go_wp2
      go_ret
      exact ⟨-1, rfl, by omega, fun h => absurd h (by omega), (Below.refl _ _).alloc (Nat.le_refl _) _⟩
    · by_cases a3 : left - (k.size : Int) - (t.size : Int) - (b.size : Int) < 0
      · go_enter Try.func52, Try.ntmps52
        go_wp2
        go_ret
        exact ⟨-1, rfl, by omega, fun h => absurd h (by omega), (Below.refl _ _).alloc (Nat.le_refl _) _⟩
      · go_enter Try.func52, Try.ntmps52
        go_wp2
        go_ret
        exact ⟨_, rfl, by omega, fun h => ⟨by omega, by omega, by omega⟩, (Below.refl _ _).alloc (Nat.le_refl _) _⟩
theorem codeArg_below {w w' : World} {A : Option Addr} {n c : Nat} (h : CodeArg w A n c) (hb : Below w.heap.size w w') : CodeArg w' A n c := by
  obtain ⟨h1, h2, h3⟩ := h
  refine ⟨h1, h2, fun hn => ?_⟩
  obtain ⟨ad, rfl, hlt, hc⟩ := h3 hn
  refine ⟨ad, rfl, Nat.lt_of_lt_of_le hlt hb.size, fun i hi => ?_⟩
  obtain ⟨z, a, b⟩ := hc i hi
  exact ⟨z, (hb.cell (p := ad.add i) (by rw [add_block]; exact hlt)).trans a, b⟩
/-- the result's variable, as the call made it, behind whatever kept it -/
theorem zeroI {w w1 wX : World} (hw : w.alloc (.cells #[.string ⟨#[]⟩, .string ⟨#[]⟩, .string ⟨#[]⟩, .int .i64 0] 30) = w1) (hB : Below w1.heap.size w1 wX) :
    wX.cell? ⟨w.heap.size, 0, none⟩ = some (.string ⟨#[]⟩) ∧ wX.cell? ⟨w.heap.size, 1, none⟩ = some (.string ⟨#[]⟩) ∧ wX.cell? ⟨w.heap.size, 2, none⟩ = some (.string ⟨#[]⟩) ∧ wX.cell? ⟨w.heap.size, 3, none⟩ = some (.int .i64 0) ∧ (∀ j, wX.frozen? ⟨w.heap.size, j, none⟩ = false) ∧ Below w.heap.size w wX := by
  subst hw
  have hrow := heap_alloc_new w (.cells #[.string ⟨#[]⟩, .string ⟨#[]⟩, .string ⟨#[]⟩, .int .i64 0] 30)
  have hX := (hB.block w.heap.size (by simp)).trans hrow
  refine ⟨cell_of_row _ w.heap.size 0 _ _ (0, 0) hX, cell_of_row _ w.heap.size 1 _ _ (0, 0) hX, cell_of_row _ w.heap.size 2 _ _ (0, 0) hX, cell_of_row _ w.heap.size 3 _ _ (0, 0) hX, fun j => by simp [World.frozen?, hX], ?_⟩
  exact ((Below.refl _ _).alloc (Nat.le_refl _) _).trans (hB.mono (by simp))
theorem rd_below {W w w' : World} {g m : Nat} (h : Rd W w g m) (hb : Below w.heap.size w w') : Rd W w' g m := by
  obtain ⟨A, n, c, p, hh, hp, hc⟩ := h.hd
  exact ⟨h.bel.trans (hb.mono h.bel.size), h.lo, A, n, c, p, (hb.block g h.lt).trans hh, hp, hc⟩
end Go.Proofs.Ytbljpbmpfmnemaa
