/-
  The verifier's own text: DgS DgS2 ModS ModS2 SgS SgS2.
-/
import Derived.Test.YtfihfnajgkmhhaaRows
import Derived.Test.YtfihfnajgkmhhaaJA
import Derived.Test.YtfihfnajgkmhhaaGc
import Derived.Test.YtfihfnajgkmhhaaHC
import Derived.Test.YtfihfnajgkmhhaaGb
import Derived.Test.YtfihfnajgkmhhaaJB
import Derived.IntWalk
import Derived.Deep.RegionHeld3
import Derived.WalkKit
import Derived.ProofKit
import Derived.Below
import Derived.Lib.Hide
import Derived.Outline
import Derived.BigQuiet
import Derived.Deep.QuietTactic
import Derived.Deep.Draws
import Derived.Laws.OwnMore
import Derived.Laws.Rows
import Derived.WalkSpells
import Derived.Deep.RegionWith
namespace Go.Proofs.Ytfihfnajgkmhhaa
open Go.RowKit
set_option linter.unusedVariables false
theorem dg_loop {s : ByteArray} {k : Nat} (h : k < s.size) : dgL (s.data.toList.take (k + 1)) = dgS (dgL (s.data.toList.take k)) (s[k].toNat : Int) := by
  rw [btake s k h, dgL_snoc]
set_option maxRecDepth 100000 in
set_option maxHeartbeats 2000000 in
theorem dgS_of (s : ByteArray) (w : World) (hs : s.size ≤ maxLen) :
    Calls Try.prog 11 #[.string s] w fun e w' => e = .returned (.int .i64 (dgO s.data.toList)) ∧ w = w' := by
  rcases ht : textB s.data.toList with _ | _
  · have HR := Lib.hid (dgO_out ht)
    have HT := Lib.hid ht
    clear ht
    go_enter Try.func11, Try.ntmps11
    go_wp2_with (go_at_call 24; refine (stext_any s _ hs).mono ?_; rintro e w' ⟨rfl, rfl⟩; rw [HT.out])
    go_ret
    exact ⟨by rw [HR.out]; rfl, rfl⟩
  · have HR := Lib.hid (dgO_in ht)
    have h80 : s.size ≤ 80 := by
      have := ht
      unfold textB at this
      simp only [Bool.and_eq_true, decide_eq_true_eq] at this
      rw [← blen]; exact this.1
    have HT := Lib.hid ht
    clear ht
    go_enter Try.func11, Try.ntmps11
    go_wp2_with (go_at_call 24; refine (stext_any s _ hs).mono ?_; rintro e w' ⟨rfl, rfl⟩; rw [HT.out])
    go_loopw [3, 4] (fun n i wr => ∃ (k : Nat) (z : Int), k ≤ s.size ∧ i = .int .i64 k ∧ n = .int .i64 z ∧ 0 ≤ z ∧ z ≤ 999982 ∧ Hid (z = dgL (s.data.toList.take k)) ∧ wr = w) (fun _ i _ => s.size - (intOf i).toNat)
    case atStart => exact ⟨0, 1, Nat.zero_le _, rfl, rfl, by omega, by omega, Lib.hid rfl, rfl⟩
    case round =>
      obtain ⟨k, z, hk, rfl, rfl, hz0, hz1, hz, rfl⟩ := hrel
      by_cases hlt : k < s.size
      · have hjj : (k : Int) < (s.size : Int) := by omega
        have hkk0 : (0 : Int) ≤ (k : Int) := by omega
        have hb := s[k].toNat_lt
        have HX := Lib.hid (dg_loop hlt)
        have hlo := dgS_lo z (s[k].toNat : Int)
        obtain ⟨c, hc⟩ : ∃ c : Nat, s[k].toNat = c := ⟨_, rfl⟩
        rw [hc] at HX hlo hb
        have i1 := IntWalk.i64_in (257 * z) (by omega)
        have i2 := IntWalk.i64_in (257 * z + (c : Int)) (by omega)
        have i3 := IntWalk.i64_in (c : Int) (by omega)
        have i4 := IntWalk.i64_in ((257 * z + (c : Int)) % 999983) (by omega)
        have i5 : (257 * z + (c : Int)).tmod 999983 = (257 * z + (c : Int)) % 999983 := Int.tmod_eq_emod_of_nonneg (by omega)
        unfold dgS at hlo
        go_wp2
        go_roundw
        case rel => exact ⟨k + 1, _, by omega, by go_num, rfl, by omega, by omega, Lib.hid (by rw [HX.out, ← hz.out]; rfl), by trivial⟩
        case measure => simp [intOf]; omega
      · have HF : Hid (z = dgL s.data.toList) := Lib.hid (by have := hz.out; rw [List.take_of_length_le (by rw [blen]; omega)] at this; exact this)
        go_wp2
        go_ret
        exact ⟨by rw [HR.out, ← HF.out]; rfl, rfl⟩
set_option maxRecDepth 100000 in
set_option maxHeartbeats 2000000 in
theorem dgS_more (d b : Int) (w : World) :
    Calls Try.prog 15 #[.int .i64 d, .int .i64 b] w fun e w' => e = .returned (.int .i64 (dgM d b)) ∧ w = w' := by
  rcases h1 : inB d 0 999982 with _ | _
  · have HR := Lib.hid (dgM_out (d := d) (b := b) (fun q => by rw [inB_true q.1.1 q.1.2] at h1; cases h1))
    have H1 := Lib.hid h1
    clear h1
    go_enter Try.func15, Try.ntmps15
    go_wp2_with (go_at_call 30; refine (l1In_any d 0 999982 _).mono ?_; rintro e w' ⟨rfl, rfl⟩; rw [H1.out])
    go_ret
    exact ⟨by rw [HR.out]; rfl, rfl⟩
  · have H1 := Lib.hid h1
    have hd : 0 ≤ d ∧ d ≤ 999982 := of_decide_eq_true h1
    clear h1
    rcases h2 : inB b 32 126 with _ | _
    · have HR := Lib.hid (dgM_out (d := d) (b := b) (fun q => by rw [inB_true q.2.1 q.2.2] at h2; cases h2))
      have H2 := Lib.hid h2
      clear h2
      go_enter Try.func15, Try.ntmps15
      go_wp2_with (first | (go_at_call 30; ((with_reducible refine (l1In_any d 0 999982 _).mono ?_); rintro e w' ⟨rfl, rfl⟩; rw [H1.out])) | (go_at_call 30; ((with_reducible refine (l1In_any b 32 126 _).mono ?_); rintro e w' ⟨rfl, rfl⟩; rw [H2.out])))
      go_ret
      exact ⟨by rw [HR.out]; rfl, rfl⟩
    · have H2 := Lib.hid h2
      have hb : 32 ≤ b ∧ b ≤ 126 := of_decide_eq_true h2
      clear h2
      have HR := Lib.hid (dgM_in ⟨hd, hb⟩)
      have i1 := IntWalk.i64_in (257 * d) (by omega)
      have i2 := IntWalk.i64_in (257 * d + b) (by omega)
      have i4 := IntWalk.i64_in ((257 * d + b) % 999983) (by omega)
      have i5 : (257 * d + b).tmod 999983 = (257 * d + b) % 999983 := Int.tmod_eq_emod_of_nonneg (by omega)
      go_enter Try.func15, Try.ntmps15
      go_wp2_with (first | (go_at_call 30; ((with_reducible refine (l1In_any d 0 999982 _).mono ?_); rintro e w' ⟨rfl, rfl⟩; rw [H1.out])) | (go_at_call 30; ((with_reducible refine (l1In_any b 32 126 _).mono ?_); rintro e w' ⟨rfl, rfl⟩; rw [H2.out])))
      go_ret
      exact ⟨by rw [HR.out]; rfl, rfl⟩
theorem dgN_next {L : List Int} {k : Nat} (h : k < L.length) : dgN (L.take (k + 1)) = dgT (dgN (L.take k)) L[k] := by
  rw [List.take_succ_eq_append_getElem h, dgN_snoc]
theorem gt_next {L : List Int} {k : Nat} (h : k < L.length) (p : (L.take k).all gtB = true) (q : gtB L[k] = true) : (L.take (k + 1)).all gtB = true := by
  rw [List.take_succ_eq_append_getElem h, List.all_append, p]; simp [q]
set_option maxRecDepth 100000 in
set_option maxHeartbeats 2000000 in
theorem dgS_list (v : Value) (L : List Int) (w : World) (h : RdG encZ w v L) :
    Calls Try.prog 18 #[v] w fun e w' => e = .returned (.int .i64 (dgI L)) ∧ w = w' := by
  by_cases hL : L = []
  · subst hL
    obtain ⟨A, c, rfl, hc⟩ := h.nil
    go_enter Try.func18, Try.ntmps18
    go_wp2
    refine wp_loop_rounds 1 ?_
    rw [rounds_succ]; go_wp2
    go_ret
    exact ⟨rfl, rfl⟩
  · obtain ⟨b, o, c, rfl, h1, h2, hb, h4⟩ := h.some hL
    unfold maxLen at h2
    have hcells := Lib.hid (fun k (hk : k < L.length) => rdZ_cell h4 hk)
    have hpos : 0 < L.length := by cases L with
      | nil => exact absurd rfl hL
      | cons => simp
    clear h4 hL
    by_cases hlong : 20 < L.length
    · have HR := Lib.hid (dgI_long hlong)
      have c0 := hcells.out 0 hpos
      rw [Nat.add_zero] at c0
      have hl20 : decide ((20 : Int) < (L.length : Int)) = true := decide_eq_true (by omega)
      obtain ⟨z, hz⟩ : ∃ z, L[0] = z := ⟨_, rfl⟩
      rw [hz] at c0
      obtain ⟨q, hq⟩ : ∃ q, inB z 0 1000000000 = q := ⟨_, rfl⟩
      have hq := Lib.hid hq
      have hjj : (0 : Int) < (L.length : Int) := by omega
      clear hz
      go_enter Try.func18, Try.ntmps18
      go_wp2
      refine wp_loop_rounds 1 ?_
      rw [rounds_succ]
      cases q
      all_goals
        go_wp2_with (go_at_call 30; refine (l1In_any z 0 1000000000 _).mono ?_; rintro e w' ⟨rfl, rfl⟩; rw [hq.out])
        go_ret
        exact ⟨by rw [HR.out]; rfl, rfl⟩
    · have hl20 : decide ((20 : Int) < (L.length : Int)) = false := decide_eq_false (by omega)
      go_enter Try.func18, Try.ntmps18
      go_wp2
      go_loopw [3, 4] (fun n i wr => ∃ (k : Nat) (z : Int), k ≤ L.length ∧ i = .int .i64 k ∧ n = .int .i64 z ∧ 0 ≤ z ∧ z ≤ 999982 ∧ Hid (z = dgN (L.take k)) ∧ Hid ((L.take k).all gtB = true) ∧ wr = w) (fun _ i _ => L.length - (intOf i).toNat)
      case atStart => exact ⟨0, 7, Nat.zero_le _, rfl, rfl, by omega, by omega, Lib.hid rfl, Lib.hid rfl, rfl⟩
      case round =>
        obtain ⟨k, z, hk, rfl, rfl, hz0, hz1, hz, hp, rfl⟩ := hrel
        by_cases hlt : k < L.length
        · have hjj : (k : Int) < (L.length : Int) := by omega
          have hkk0 : (0 : Int) ≤ (k : Int) := by omega
          have c0 := hcells.out k hlt
          have HX := dgN_next hlt
          have HG := gt_next hlt hp.out
          have HB := fun (q : gtB L[k] = false) => dgI_bad (L := L) (x := L[k]) (List.getElem_mem hlt) q
          obtain ⟨x, hx⟩ : ∃ x, L[k] = x := ⟨_, rfl⟩
          rw [hx] at c0 HX HG HB
          clear hx
          rcases hq : inB x 0 1000000000 with _ | _
          · have HR := Lib.hid (HB hq)
            have hq := Lib.hid hq
            clear HB HG HX
            go_wp2_with (go_at_call 30; refine (l1In_any x 0 1000000000 _).mono ?_; rintro e w' ⟨rfl, rfl⟩; rw [hq.out])
            go_ret
            exact ⟨by rw [HR.out]; rfl, rfl⟩
          · have hxb : 0 ≤ x ∧ x ≤ 1000000000 := of_decide_eq_true hq
            have HG := Lib.hid (HG hq)
            have hq := Lib.hid hq
            have HX := Lib.hid HX
            have hlo := dgT_lo z x
            have i1 := IntWalk.i64_in (1009 * z) (by omega)
            have i2 := IntWalk.i64_in (1009 * z + x) (by omega)
            have i4 := IntWalk.i64_in ((1009 * z + x) % 999983) (by omega)
            have i5 : (1009 * z + x).tmod 999983 = (1009 * z + x) % 999983 := Int.tmod_eq_emod_of_nonneg (by omega)
            unfold dgT at hlo
            clear HB
            go_wp2_with (go_at_call 30; refine (l1In_any x 0 1000000000 _).mono ?_; rintro e w' ⟨rfl, rfl⟩; rw [hq.out])
            go_roundw
            case rel => exact ⟨k + 1, _, by omega, by go_num, rfl, by omega, by omega, Lib.hid (by rw [HX.out, ← hz.out]; rfl), HG, by trivial⟩
            case measure => simp [intOf]; omega
        · have HF : Hid (z = dgI L) := Lib.hid (by
            have h1 := hz.out
            have h2 := hp.out
            rw [List.take_of_length_le (by omega)] at h1 h2
            rw [dgI_in h2 (by omega)]; exact h1)
          go_wp2
          go_ret
          exact ⟨by rw [← HF.out]; rfl, rfl⟩
theorem inB_got {n lo hi : Int} (h : inB n lo hi = true) : lo ≤ n ∧ n ≤ hi := of_decide_eq_true h
theorem inB_isnt {n lo hi : Int} (h : inB n lo hi = false) : ¬ (lo ≤ n ∧ n ≤ hi) := of_decide_eq_false h
theorem mul_rng {x y m : Int} (hm : m ≤ 1000000) (x0 : 0 ≤ x) (x1 : x ≤ m - 1) (y0 : 0 ≤ y) (y1 : y ≤ m - 1) : 0 ≤ x * y ∧ x * y ≤ 1000000000000 :=
  ⟨Int.mul_nonneg x0 y0, Int.le_trans (Int.mul_le_mul_of_nonneg_right (show x ≤ 1000000 by omega) y0) (by omega)⟩
theorem mul_rng2 {x y m : Int} (hm : m ≤ 1000000) (x0 : 0 ≤ x) (x1 : x ≤ m) (y0 : -m ≤ y) (y1 : y ≤ m) : -1000000000000 ≤ x * y ∧ x * y ≤ 1000000000000 := by
  have a1 : x * y ≤ x * m := Int.mul_le_mul_of_nonneg_left y1 x0
  have a2 : x * (-m) ≤ x * y := Int.mul_le_mul_of_nonneg_left y0 x0
  have a3 : x * m ≤ 1000000 * m := Int.mul_le_mul_of_nonneg_right (by omega) (by omega)
  rw [Int.mul_neg] at a2
  omega
theorem tmod_rng {x m : Int} (hm : 2 ≤ m) : -m < x.tmod m ∧ x.tmod m < m :=
  ⟨by have b := Int.lt_tmod_of_pos x (b := m) (by omega); omega, Int.tmod_lt_of_pos x (b := m) (by omega)⟩
/-- a signature and whether -/
def GotSg (P : Sg × Bool) (w : World) (e : Ending) (w' : World) : Prop := e = .returned (.tuple #[aggSg P.1, .bool P.2]) ∧ Below w.heap.size w w'
theorem frzG {w w1 wX : World} {cs : Array Value} {T : TypeId} (hw : w.alloc (.cells cs T) = w1) (hB : Below w1.heap.size w1 wX) : ∀ j, wX.frozen? ⟨w.heap.size, j, none⟩ = false := fun j => by
  subst hw
  have hX := (hB.block w.heap.size (by simp)).trans (heap_alloc_new w (.cells cs T))
  simp [World.frozen?, hX]
theorem fitSg_text {i : Sg} (h : FitSg i) : i.text.size ≤ maxLen := fit_max h
/-- what the operations of the region yield -/
def QSgBa (b0 b1 : Nat) (t : ByteArray) (m u g a b e n : Int) (j : Nat) (v : Value) : Prop :=
  match j with
  | 0 => v = .agg #[.string t, .int .i64 m, .int .i64 u, .int .i64 g]
  | 1 => v = .bool false
  | 2 => v = .bool false
  | 3 => v = undef
  | 4 => v = undef
  | 5 => v = undef
  | 6 => v = undef
  | 7 => v = undef
  | 8 => v = .bool false
  | 9 => v = .bool false
  | 10 => v = undef
  | 11 => v = undef
  | 12 => v = undef
  | 13 => v = undef
  | 14 => v = undef
  | 15 => v = .bool false
  | 16 => v = .bool false
  | _ => False
/-- what the operations of the region yield -/
def QSgBb (b0 b1 : Nat) (t : ByteArray) (m u g a b e n : Int) (j : Nat) (v : Value) : Prop :=
  match j with
  | 0 => v = .agg #[.string t, .int .i64 m, .int .i64 u, .int .i64 g]
  | 1 => v = .bool true
  | 2 => v = .bool true
  | 3 => v = .agg #[.int .i64 a, .int .i64 b, .int .i64 e]
  | 4 => v = .int .i64 n
  | 5 => v = .pointer (some ⟨b0, 1, none⟩)
  | 6 => v = .int .i64 m
  | 7 => v = .bool false
  | 8 => v = .bool false
  | 9 => v = .bool false
  | 10 => v = undef
  | 11 => v = undef
  | 12 => v = undef
  | 13 => v = undef
  | 14 => v = undef
  | 15 => v = .bool false
  | 16 => v = .bool false
  | _ => False
/-- what the operations of the region yield -/
def QSgBc (b0 b1 : Nat) (t : ByteArray) (m u g a b e n : Int) (j : Nat) (v : Value) : Prop :=
  match j with
  | 0 => v = .agg #[.string t, .int .i64 m, .int .i64 u, .int .i64 g]
  | 1 => v = .bool true
  | 2 => v = .bool true
  | 3 => v = .agg #[.int .i64 a, .int .i64 b, .int .i64 e]
  | 4 => v = .int .i64 n
  | 5 => v = .pointer (some ⟨b0, 1, none⟩)
  | 6 => v = .int .i64 m
  | 7 => v = .bool true
  | 8 => v = .bool true
  | 9 => v = .bool true
  | 10 => v = .pointer (some ⟨b1, 2, none⟩)
  | 11 => v = .int .i64 e
  | 12 => v = .pointer (some ⟨b0, 2, none⟩)
  | 13 => v = .int .i64 u
  | 14 => v = .bool false
  | 15 => v = .bool false
  | 16 => v = .bool false
  | _ => False
/-- what the operations of the region yield -/
def QSgBd (b0 b1 : Nat) (t : ByteArray) (m u g a b e n : Int) (j : Nat) (v : Value) : Prop :=
  match j with
  | 0 => v = .agg #[.string t, .int .i64 m, .int .i64 u, .int .i64 g]
  | 1 => v = .bool true
  | 2 => v = .bool true
  | 3 => v = .agg #[.int .i64 a, .int .i64 b, .int .i64 e]
  | 4 => v = .int .i64 n
  | 5 => v = .pointer (some ⟨b0, 1, none⟩)
  | 6 => v = .int .i64 m
  | 7 => v = .bool true
  | 8 => v = .bool true
  | 9 => v = .bool true
  | 10 => v = .pointer (some ⟨b1, 2, none⟩)
  | 11 => v = .int .i64 e
  | 12 => v = .pointer (some ⟨b0, 2, none⟩)
  | 13 => v = .int .i64 u
  | 14 => v = .bool true
  | 15 => v = .bool true
  | 16 => v = .bool true
  | _ => False
end Go.Proofs.Ytfihfnajgkmhhaa
