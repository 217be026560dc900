/-
  The verifier's own text: DgI.
-/
import Derived.Test.YtfihfnajgkmhhaaRows
import Derived.Test.YtfihfnajgkmhhaaJC
import Derived.Test.YtfihfnajgkmhhaaGc
import Derived.Test.YtfihfnajgkmhhaaNumI
import Derived.WalkKit
import Derived.ProofKit
import Derived.Below
import Derived.Lib.Hide
import Derived.Outline
import Derived.BigQuiet
import Derived.Deep.QuietTactic
import Derived.Deep.Draws
import Derived.Laws.OwnMore
import Derived.Laws.Rows
import Derived.WalkSpells
import Derived.Deep.RegionWith
namespace Go.Proofs.Ytfihfnajgkmhhaa
open Go.RowKit
set_option linter.unusedVariables false
theorem dsI_any (n : Int) (w : World) :
    Calls Try.prog 26 #[.int .i64 n] w fun e w' => e = .returned (.bool (inB n 0 999982)) ∧ w = w' := by
  by_cases h1 : 0 ≤ n
  · have d1 : decide (0 ≤ n) = true := decide_eq_true h1
    by_cases h2 : n ≤ 999982
    · have d2 : decide (n < 999983) = true := decide_eq_true (by omega)
      have HR := Lib.hid (inB_true h1 h2)
      clear h1 h2
      go_enter Try.func26, Try.ntmps26
      go_wp2
      go_ret
      exact ⟨ret_bool HR.out.symm, rfl⟩
    · have d2 : decide (n < 999983) = false := decide_eq_false (by omega)
      have HR := Lib.hid (inB_hi (n := n) (lo := 0) (hi := 999982) (by omega))
      clear h1 h2
      go_enter Try.func26, Try.ntmps26
      go_wp2
      go_ret
      exact ⟨ret_bool HR.out.symm, rfl⟩
  · have d1 : decide (0 ≤ n) = false := decide_eq_false h1
    have HR := Lib.hid (inB_lo (n := n) (lo := 0) (hi := 999982) (by omega))
    clear h1
    go_enter Try.func26, Try.ntmps26
    go_wp2
    go_ret
    exact ⟨ret_bool HR.out.symm, rfl⟩
theorem dstS_any (d n : Int) (w : World) (h0 : 0 ≤ d) (h1 : d ≤ 999982) (n0 : 0 ≤ n) (n1 : n ≤ 1000000000) :
    Calls Try.prog 28 #[.int .i64 d, .int .i64 257, .int .i64 n] w fun e w' => e = .returned (.int .i64 (dgS d n)) ∧ w = w' := by
  have i1 := IntWalk.i64_in (d * 257) (by omega)
  have i2 := IntWalk.i64_in (d * 257 + n) (by omega)
  have i4 := IntWalk.i64_in ((d * 257 + n) % 999983) (by omega)
  have i5 : (d * 257 + n).tmod 999983 = (d * 257 + n) % 999983 := Int.tmod_eq_emod_of_nonneg (by omega)
  have HR : Hid (dgS d n = (d * 257 + n) % 999983) := Lib.hid (by unfold dgS; rw [Int.mul_comm])
  go_enter Try.func28, Try.ntmps28
  go_wp2
  go_ret
  exact ⟨by rw [HR.out]; rfl, rfl⟩
theorem dstT_any (d n : Int) (w : World) (h0 : 0 ≤ d) (h1 : d ≤ 999982) (n0 : 0 ≤ n) (n1 : n ≤ 1000000000) :
    Calls Try.prog 28 #[.int .i64 d, .int .i64 1009, .int .i64 n] w fun e w' => e = .returned (.int .i64 (dgT d n)) ∧ w = w' := by
  have i1 := IntWalk.i64_in (d * 1009) (by omega)
  have i2 := IntWalk.i64_in (d * 1009 + n) (by omega)
  have i4 := IntWalk.i64_in ((d * 1009 + n) % 999983) (by omega)
  have i5 : (d * 1009 + n).tmod 999983 = (d * 1009 + n) % 999983 := Int.tmod_eq_emod_of_nonneg (by omega)
  have HR : Hid (dgT d n = (d * 1009 + n) % 999983) := Lib.hid (by unfold dgT; rw [Int.mul_comm])
  go_enter Try.func28, Try.ntmps28
  go_wp2
  go_ret
  exact ⟨by rw [HR.out]; rfl, rfl⟩
set_option maxRecDepth 100000 in
set_option maxHeartbeats 2000000 in
theorem dgP_more (d b : Int) (w : World) :
    Calls Try.prog 13 #[.int .i64 d, .int .i64 b] w fun e w' => e = .returned (.int .i64 (dgM d b)) ∧ w = w' := by
  rcases h1 : inB d 0 999982 with _ | _
  · have HR := Lib.hid (dgM_out (d := d) (b := b) (fun q => by rw [inB_true q.1.1 q.1.2] at h1; cases h1))
    have H1 := Lib.hid h1
    clear h1
    go_enter Try.func13, Try.ntmps13
    go_wp2_with (go_at_call 26; refine (dsI_any d _).mono ?_; rintro e w' ⟨rfl, rfl⟩; rw [H1.out])
    go_ret
    exact ⟨by rw [HR.out]; rfl, rfl⟩
  · have H1 := Lib.hid h1
    have hd : 0 ≤ d ∧ d ≤ 999982 := of_decide_eq_true h1
    clear h1
    rcases h2 : inB b 32 126 with _ | _
    · have HR := Lib.hid (dgM_out (d := d) (b := b) (fun q => by rw [inB_true q.2.1 q.2.2] at h2; cases h2))
      have H2 := Lib.hid h2
      clear h2
      go_enter Try.func13, Try.ntmps13
      go_wp2_with (first | (go_at_call 26; refine (dsI_any d _).mono ?_; rintro e w' ⟨rfl, rfl⟩; rw [H1.out]) | (go_at_call 27; refine (tbI_any b _).mono ?_; rintro e w' ⟨rfl, rfl⟩; rw [H2.out]))
      go_ret
      exact ⟨by rw [HR.out]; rfl, rfl⟩
    · have H2 := Lib.hid h2
      have hb : 32 ≤ b ∧ b ≤ 126 := of_decide_eq_true h2
      clear h2
      have HR := Lib.hid (dgM_in ⟨hd, hb⟩)
      go_enter Try.func13, Try.ntmps13
      go_wp2_with (first | (go_at_call 26; refine (dsI_any d _).mono ?_; rintro e w' ⟨rfl, rfl⟩; rw [H1.out]) | (go_at_call 27; refine (tbI_any b _).mono ?_; rintro e w' ⟨rfl, rfl⟩; rw [H2.out]) | (go_at_call 28; refine (dstS_any d b _ hd.1 hd.2 (by omega) (by omega)).mono ?_; rintro e w' ⟨rfl, rfl⟩))
      go_ret
      exact ⟨by rw [HR.out]; rfl, rfl⟩
theorem tx_byte {s : ByteArray} {k : Nat} (ht : textB s.data.toList = true) (h : k < s.size) : 32 ≤ (s[k].toNat : Int) ∧ (s[k].toNat : Int) ≤ 126 := by
  unfold textB at ht
  simp only [Bool.and_eq_true, List.all_eq_true] at ht
  exact of_decide_eq_true (ht.2 _ (bmem s k h))
set_option maxRecDepth 100000 in
set_option maxHeartbeats 2000000 in
theorem dgP_of (s : ByteArray) (w : World) (hs : s.size ≤ maxLen) :
    Calls Try.prog 10 #[.string s] w fun e w' => e = .returned (.int .i64 (dgO s.data.toList)) ∧ w = w' := by
  rcases ht : textB s.data.toList with _ | _
  · have HR := Lib.hid (dgO_out ht)
    have HT := Lib.hid ht
    clear ht
    go_enter Try.func10, Try.ntmps10
    go_wp2_with (go_at_call 23; refine (text_any s _ hs).mono ?_; rintro e w' ⟨rfl, rfl⟩; rw [HT.out])
    go_ret
    exact ⟨by rw [HR.out]; rfl, rfl⟩
  · have HR := Lib.hid (dgO_in ht)
    have h80 : s.size ≤ 80 := by
      have := ht
      unfold textB at this
      simp only [Bool.and_eq_true, decide_eq_true_eq] at this
      rw [← blen]; exact this.1
    have HB := Lib.hid (fun k (h : k < s.size) => tx_byte ht h)
    have HT := Lib.hid ht
    clear ht
    go_enter Try.func10, Try.ntmps10
    go_wp2_with (go_at_call 23; refine (text_any s _ hs).mono ?_; rintro e w' ⟨rfl, rfl⟩; rw [HT.out])
    go_loopw [3, 4] (fun n i wr => ∃ (k : Nat) (z : Int), k ≤ s.size ∧ i = .int .i64 k ∧ n = .int .i64 z ∧ 0 ≤ z ∧ z ≤ 999982 ∧ Hid (z = dgL (s.data.toList.take k)) ∧ wr = w) (fun _ i _ => s.size - (intOf i).toNat)
    case atStart => exact ⟨0, 1, Nat.zero_le _, rfl, rfl, by omega, by omega, Lib.hid rfl, rfl⟩
    case round =>
      obtain ⟨k, z, hk, rfl, rfl, hz0, hz1, hz, rfl⟩ := hrel
      by_cases hlt : k < s.size
      · have hjj : (k : Int) < (s.size : Int) := by omega
        have hkk0 : (0 : Int) ≤ (k : Int) := by omega
        have hb := HB.out k hlt
        have HX := Lib.hid (dg_loop hlt)
        have hlo := dgS_lo z (s[k].toNat : Int)
        obtain ⟨c, hc⟩ : ∃ c : Nat, s[k].toNat = c := ⟨_, rfl⟩
        rw [hc] at HX hlo hb
        have i3 := IntWalk.i64_in (c : Int) (by omega)
        have HM := Lib.hid (dgM_in (d := z) (b := (c : Int)) ⟨⟨hz0, hz1⟩, hb⟩)
        obtain ⟨y, hy⟩ : ∃ y, dgS z (c : Int) = y := ⟨_, rfl⟩
        rw [hy] at HM hlo
        have HY : Hid (dgL (s.data.toList.take (k + 1)) = y) := Lib.hid (by rw [HX.out, ← hz.out, hy])
        clear hy HX hz
        go_wp2_with (go_at_call 13; refine (dgP_more z (c : Int) _).mono ?_; rintro e w' ⟨rfl, rfl⟩; rw [HM.out])
        go_roundw
        case rel => exact ⟨k + 1, y, by omega, by go_num, rfl, hlo.1, by omega, Lib.hid HY.out.symm, by trivial⟩
        case measure => simp [intOf]; omega
      · have HF : Hid (z = dgL s.data.toList) := Lib.hid (by have := hz.out; rw [List.take_of_length_le (by rw [blen]; omega)] at this; exact this)
        go_wp2
        go_ret
        exact ⟨by rw [HR.out, ← HF.out]; rfl, rfl⟩
set_option maxRecDepth 100000 in
set_option maxHeartbeats 2000000 in
theorem dgP_list (v : Value) (L : List Int) (w : World) (h : RdG encZ w v L) :
    Calls Try.prog 17 #[v] w fun e w' => e = .returned (.int .i64 (dgI L)) ∧ w = w' := by
  by_cases hL : L = []
  · subst hL
    obtain ⟨A, c, rfl, hc⟩ := h.nil
    go_enter Try.func17, Try.ntmps17
    go_wp2
    refine wp_loop_rounds 1 ?_
    rw [rounds_succ]; go_wp2
    go_ret
    exact ⟨rfl, rfl⟩
  · obtain ⟨b, o, c, rfl, h1, h2, hb, h4⟩ := h.some hL
    unfold maxLen at h2
    have hcells := Lib.hid (fun k (hk : k < L.length) => rdZ_cell h4 hk)
    have hpos : 0 < L.length := by cases L with
      | nil => exact absurd rfl hL
      | cons => simp
    clear h4 hL
    by_cases hlong : 20 < L.length
    · have HR := Lib.hid (dgI_long hlong)
      have hl20 : decide ((20 : Int) < (L.length : Int)) = true := decide_eq_true (by omega)
      go_enter Try.func17, Try.ntmps17
      go_wp2
      go_ret
      exact ⟨by rw [HR.out]; rfl, rfl⟩
    · have hl20 : decide ((20 : Int) < (L.length : Int)) = false := decide_eq_false (by omega)
      go_enter Try.func17, Try.ntmps17
      go_wp2
      go_loopw [3, 11] (fun n i wr => ∃ (k : Nat) (z : Int), k ≤ L.length ∧ i = .int .i64 k ∧ n = .int .i64 z ∧ 0 ≤ z ∧ z ≤ 999982 ∧ Hid (z = dgN (L.take k)) ∧ Hid ((L.take k).all gtB = true) ∧ wr = w) (fun _ i _ => L.length - (intOf i).toNat)
      case atStart => exact ⟨0, 7, Nat.zero_le _, rfl, rfl, by omega, by omega, Lib.hid rfl, Lib.hid rfl, rfl⟩
      case round =>
        obtain ⟨k, z, hk, rfl, rfl, hz0, hz1, hz, hp, rfl⟩ := hrel
        by_cases hlt : k < L.length
        · have hjj : (k : Int) < (L.length : Int) := by omega
          have hkk0 : (0 : Int) ≤ (k : Int) := by omega
          have c0 := hcells.out k hlt
          have HX := dgN_next hlt
          have HG := gt_next hlt hp.out
          have HB := fun (q : gtB L[k] = false) => dgI_bad (L := L) (x := L[k]) (List.getElem_mem hlt) q
          obtain ⟨x, hx⟩ : ∃ x, L[k] = x := ⟨_, rfl⟩
          rw [hx] at c0 HX HG HB
          clear hx
          rcases hq : inB x 0 1000000000 with _ | _
          · have HR := Lib.hid (HB hq)
            have hq := Lib.hid hq
            clear HB HG HX
            go_wp2_with (go_at_call 32; refine (num_any x _).mono ?_; rintro e w' ⟨rfl, rfl⟩; rw [hq.out])
            go_ret
            exact ⟨by rw [HR.out]; rfl, rfl⟩
          · have hxb : 0 ≤ x ∧ x ≤ 1000000000 := of_decide_eq_true hq
            have HG := Lib.hid (HG hq)
            have hq := Lib.hid hq
            have hlo := dgT_lo z x
            rw [← hz.out] at HX
            have HX := Lib.hid HX
            clear HB
            go_wp2_with (first | (go_at_call 32; refine (num_any x _).mono ?_; rintro e w' ⟨rfl, rfl⟩; rw [hq.out]) | (go_at_call 28; refine (dstT_any z x _ hz0 hz1 hxb.1 hxb.2).mono ?_; rintro e w' ⟨rfl, rfl⟩))
            go_roundw
            case rel => exact ⟨k + 1, dgT z x, by omega, by go_num, rfl, hlo.1, by omega, Lib.hid HX.out.symm, HG, by trivial⟩
            case measure => simp [intOf]; omega
        · have HF : Hid (z = dgI L) := Lib.hid (by
            have h1 := hz.out
            have h2 := hp.out
            rw [List.take_of_length_le (by omega)] at h1 h2
            rw [dgI_in h2 (by omega)]; exact h1)
          go_wp2
          go_ret
          exact ⟨by rw [← HF.out]; rfl, rfl⟩
end Go.Proofs.Ytfihfnajgkmhhaa
