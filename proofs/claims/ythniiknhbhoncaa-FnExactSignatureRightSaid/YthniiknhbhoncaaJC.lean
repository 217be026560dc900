/-
  The verifier's own text: DgS DgS2 ModS ModS2 KyS SgS SgS2.
-/
import Derived.Test.YthniiknhbhoncaaRows
import Derived.Test.YthniiknhbhoncaaJA
import Derived.Test.YthniiknhbhoncaaGc
import Derived.Test.YthniiknhbhoncaaHC
import Derived.Test.YthniiknhbhoncaaGb
import Derived.Test.YthniiknhbhoncaaJB
import Derived.IntWalk
import Derived.Test.YthniiknhbhoncaaHG
import Derived.Test.YthniiknhbhoncaaGq
import Derived.Test.YthniiknhbhoncaaGf
import Derived.Deep.RegionHeld3
import Derived.WalkKit
import Derived.ProofKit
import Derived.Below
import Derived.Lib.Hide
import Derived.Outline
import Derived.BigQuiet
import Derived.Deep.QuietTactic
import Derived.Deep.Draws
import Derived.Laws.OwnMore
import Derived.Laws.Rows
import Derived.WalkSpells
import Derived.Deep.RegionWith
namespace Go.Proofs.Ythniiknhbhoncaa
open Go.RowKit
set_option linter.unusedVariables false
theorem dg_loop {s : ByteArray} {k : Nat} (h : k < s.size) : dgL (s.data.toList.take (k + 1)) = dgS (dgL (s.data.toList.take k)) (s[k].toNat : Int) := by
  rw [btake s k h, dgL_snoc]
set_option maxRecDepth 100000 in
set_option maxHeartbeats 2000000 in
theorem dgS_of (s : ByteArray) (w : World) (hs : s.size ≤ maxLen) :
    Calls Try.prog 34 #[.string s] w fun e w' => e = .returned (.int .i64 (dgO s.data.toList)) ∧ w = w' := by
  rcases ht : textB s.data.toList with _ | _
  · have HR := Lib.hid (dgO_out ht)
    have HT := Lib.hid ht
    clear ht
    go_enter Try.func34, Try.ntmps34
    go_wp2_with (go_at_call 32; refine (stext_any s _ hs).mono ?_; rintro e w' ⟨rfl, rfl⟩; rw [HT.out])
    go_ret
    exact ⟨by rw [HR.out]; rfl, rfl⟩
  · have HR := Lib.hid (dgO_in ht)
    have h80 : s.size ≤ 80 := by
      have := ht
      unfold textB at this
      simp only [Bool.and_eq_true, decide_eq_true_eq] at this
      rw [← blen]; exact this.1
    have HT := Lib.hid ht
    clear ht
    go_enter Try.func34, Try.ntmps34
    go_wp2_with (go_at_call 32; refine (stext_any s _ hs).mono ?_; rintro e w' ⟨rfl, rfl⟩; rw [HT.out])
    go_loopw [3, 4] (fun n i wr => ∃ (k : Nat) (z : Int), k ≤ s.size ∧ i = .int .i64 k ∧ n = .int .i64 z ∧ 0 ≤ z ∧ z ≤ 999982 ∧ Hid (z = dgL (s.data.toList.take k)) ∧ wr = w) (fun _ i _ => s.size - (intOf i).toNat)
    case atStart => exact ⟨0, 1, Nat.zero_le _, rfl, rfl, by omega, by omega, Lib.hid rfl, rfl⟩
    case round =>
      obtain ⟨k, z, hk, rfl, rfl, hz0, hz1, hz, rfl⟩ := hrel
      by_cases hlt : k < s.size
      · have hjj : (k : Int) < (s.size : Int) := by omega
        have hkk0 : (0 : Int) ≤ (k : Int) := by omega
        have hb := s[k].toNat_lt
        have HX := Lib.hid (dg_loop hlt)
        have hlo := dgS_lo z (s[k].toNat : Int)
        obtain ⟨c, hc⟩ : ∃ c : Nat, s[k].toNat = c := ⟨_, rfl⟩
        rw [hc] at HX hlo hb
        have i1 := IntWalk.i64_in (257 * z) (by omega)
        have i2 := IntWalk.i64_in (257 * z + (c : Int)) (by omega)
        have i3 := IntWalk.i64_in (c : Int) (by omega)
        have i4 := IntWalk.i64_in ((257 * z + (c : Int)) % 999983) (by omega)
        have i5 : (257 * z + (c : Int)).tmod 999983 = (257 * z + (c : Int)) % 999983 := Int.tmod_eq_emod_of_nonneg (by omega)
        unfold dgS at hlo
        go_wp2
        go_roundw
        case rel => exact ⟨k + 1, _, by omega, by go_num, rfl, by omega, by omega, Lib.hid (by rw [HX.out, ← hz.out]; rfl), by trivial⟩
        case measure => simp [intOf]; omega
      · have HF : Hid (z = dgL s.data.toList) := Lib.hid (by have := hz.out; rw [List.take_of_length_le (by rw [blen]; omega)] at this; exact this)
        go_wp2
        go_ret
        exact ⟨by rw [HR.out, ← HF.out]; rfl, rfl⟩
theorem dgN_next {L : List Int} {k : Nat} (h : k < L.length) : dgN (L.take (k + 1)) = dgT (dgN (L.take k)) L[k] := by
  rw [List.take_succ_eq_append_getElem h, dgN_snoc]
theorem gt_next {L : List Int} {k : Nat} (h : k < L.length) (p : (L.take k).all gtB = true) (q : gtB L[k] = true) : (L.take (k + 1)).all gtB = true := by
  rw [List.take_succ_eq_append_getElem h, List.all_append, p]; simp [q]
theorem inB_got {n lo hi : Int} (h : inB n lo hi = true) : lo ≤ n ∧ n ≤ hi := of_decide_eq_true h
theorem inB_isnt {n lo hi : Int} (h : inB n lo hi = false) : ¬ (lo ≤ n ∧ n ≤ hi) := of_decide_eq_false h
theorem mul_rng {x y m : Int} (hm : m ≤ 1000000) (x0 : 0 ≤ x) (x1 : x ≤ m - 1) (y0 : 0 ≤ y) (y1 : y ≤ m - 1) : 0 ≤ x * y ∧ x * y ≤ 1000000000000 :=
  ⟨Int.mul_nonneg x0 y0, Int.le_trans (Int.mul_le_mul_of_nonneg_right (show x ≤ 1000000 by omega) y0) (by omega)⟩
set_option maxRecDepth 100000 in
set_option maxHeartbeats 4000000 in
theorem mdS_pow (a e m : Int) (w : World) :
    Calls Try.prog 49 #[.int .i64 a, .int .i64 e, .int .i64 m] w fun e' w' => e' = .returned (.int .i64 (powM a e m)) ∧ w = w' := by
  rcases h1 : inB m 1 1000000 with _ | _
  · have HR := Lib.hid (powM_out (a := a) (e := e) (m := m) (fun q => inB_isnt h1 q.1))
    have H1 := Lib.hid h1
    clear h1
    go_enter Try.func49, Try.ntmps49
    go_wp2_with (go_at_call 38; refine (l1In_any m 1 1000000 _).mono ?_; rintro e w' ⟨rfl, rfl⟩; rw [H1.out])
    go_ret
    exact ⟨by rw [HR.out]; rfl, rfl⟩
  · have H1 := Lib.hid h1
    have hm := inB_got h1
    have iw := IntWalk.i64_in (m - 1) (by omega)
    clear h1
    rcases h2 : inB a 0 (m - 1) with _ | _
    · have HR := Lib.hid (powM_out (a := a) (e := e) (m := m) (fun q => inB_isnt h2 q.2.1))
      have H2 := Lib.hid h2
      clear h2
      go_enter Try.func49, Try.ntmps49
      go_wp2_with (first | (go_at_call 38; ((with_reducible refine (l1In_any m 1 1000000 _).mono ?_); rintro e w' ⟨rfl, rfl⟩; rw [H1.out])) | (go_at_call 38; ((with_reducible refine (l1In_any a 0 (m - 1) _).mono ?_); rintro e w' ⟨rfl, rfl⟩; rw [H2.out])))
      go_ret
      exact ⟨by rw [HR.out]; rfl, rfl⟩
    · have H2 := Lib.hid h2
      have ha := inB_got h2
      clear h2
      rcases h3 : inB e 0 1000000000 with _ | _
      · have HR := Lib.hid (powM_out (a := a) (e := e) (m := m) (fun q => inB_isnt h3 q.2.2))
        have H3 := Lib.hid h3
        clear h3
        go_enter Try.func49, Try.ntmps49
        go_wp2_with (first | (go_at_call 38; ((with_reducible refine (l1In_any m 1 1000000 _).mono ?_); rintro e w' ⟨rfl, rfl⟩; rw [H1.out])) | (go_at_call 38; ((with_reducible refine (l1In_any a 0 (m - 1) _).mono ?_); rintro e w' ⟨rfl, rfl⟩; rw [H2.out])) | (go_at_call 38; ((with_reducible refine (l1In_any e 0 1000000000 _).mono ?_); rintro e w' ⟨rfl, rfl⟩; rw [H3.out])))
        go_ret
        exact ⟨by rw [HR.out]; rfl, rfl⟩
      · have H3 := Lib.hid h3
        have hb := inB_got h3
        clear h3
        have HR := Lib.hid (powM_in (a := a) (e := e) (m := m) ⟨hm, ha, hb⟩)
        obtain ⟨k, rfl⟩ : ∃ k : Nat, e = k := ⟨e.toNat, by omega⟩
        have hm0 : ¬ m = 0 := by omega
        have hlo1 := mod_lo (x := 1) hm.1
        have i4 := IntWalk.i64_in (1 % m) (by omega)
        have i5 : (1 : Int).tmod m = 1 % m := Int.tmod_eq_emod_of_nonneg (by omega)
        obtain ⟨n1, hn1⟩ : ∃ n1, 1 % m = n1 := ⟨_, rfl⟩
        have HS : Hid (n1 * a ^ k % m = a ^ ((k : Int)).toNat % m) := Lib.hid (by rw [← hn1, mul_mod_l, Int.one_mul]; rfl)
        rw [hn1] at hlo1 i4 i5
        clear hn1
        have hk9 : k ≤ 1000000000 := by omega
        clear hb
        go_enter Try.func49, Try.ntmps49
        go_wp2_with (first | (go_at_call 38; ((with_reducible refine (l1In_any m 1 1000000 _).mono ?_); rintro e w' ⟨rfl, rfl⟩; rw [H1.out])) | (go_at_call 38; ((with_reducible refine (l1In_any a 0 (m - 1) _).mono ?_); rintro e w' ⟨rfl, rfl⟩; rw [H2.out])) | (go_at_call 38; ((with_reducible refine (l1In_any (k : Int) 0 1000000000 _).mono ?_); rintro e w' ⟨rfl, rfl⟩; rw [H3.out])))
        go_loop [0, 1, 7] (fun xv iv nv => ∃ (q : Nat) (x z : Int), q ≤ 1000000000 ∧ xv = .int .i64 x ∧ iv = .int .i64 q ∧ nv = .int .i64 z ∧ 0 ≤ x ∧ x ≤ m - 1 ∧ 0 ≤ z ∧ z ≤ m - 1 ∧ Hid (z * x ^ q % m = a ^ (k : Int).toNat % m)) (fun _ iv _ => (intOf iv).toNat)
        case atStart => exact ⟨k, a, n1, hk9, rfl, rfl, rfl, ha.1, ha.2, hlo1.1, hlo1.2, HS⟩
        case round =>
          obtain ⟨q, x, z, hq, rfl, rfl, rfl, x0, x1, z0, z1, hz⟩ := hrel
          by_cases h0 : q = 0
          · subst h0
            have HF : Hid (powM a (k : Int) m = z) := Lib.hid (by
              have := hz.out
              rw [Int.pow_zero, Int.mul_one, mod_self' z0 z1] at this
              rw [HR.out, this])
            go_wp2
            go_ret
            exact ⟨by rw [HF.out]; rfl, rfl⟩
          · have hq0 : (0 : Int) < (q : Int) := by omega
            have hxx := mul_rng hm.2 x0 x1 x0 x1
            have hzx := mul_rng hm.2 z0 z1 x0 x1
            have lxx := mod_lo (x := x * x) hm.1
            have lzx := mod_lo (x := z * x) hm.1
            have j1 := IntWalk.i64_in (x * x) (by omega)
            have j2 := IntWalk.i64_in (z * x) (by omega)
            have j3 := IntWalk.i64_in (x * x % m) (by omega)
            have j4 := IntWalk.i64_in (z * x % m) (by omega)
            have j5 : (x * x).tmod m = x * x % m := Int.tmod_eq_emod_of_nonneg hxx.1
            have j6 : (z * x).tmod m = z * x % m := Int.tmod_eq_emod_of_nonneg hzx.1
            by_cases hodd : q % 2 = 1
            · have HN := Lib.hid ((pow_odd (n := z) (a := x) (m := m) hodd).trans hz.out)
              have t1 : ((q : Int) % 2 == 1) = true := by rw [beq_iff_eq]; omega
              have t2 : (q : Int) % 2 = 1 := by omega
              obtain ⟨u, hu⟩ : ∃ u, x * x % m = u := ⟨_, rfl⟩
              obtain ⟨v, hv⟩ : ∃ v, z * x % m = v := ⟨_, rfl⟩
              rw [hu, hv] at HN
              rw [hu] at j3 j5 lxx
              rw [hv] at j4 j6 lzx
              clear hu hv hodd
              go_wp2
              go_round
              case rel => exact ⟨q / 2, u, v, by omega, rfl, by go_num, rfl, lxx.1, lxx.2, lzx.1, lzx.2, HN⟩
              case measure => simp [intOf]; omega
            · have HN := Lib.hid ((pow_even (n := z) (a := x) (m := m) (e := q) (by omega)).trans hz.out)
              have t1 : ((q : Int) % 2 == 1) = false := by rw [beq_eq_false_iff_ne]; omega
              have t2 : ¬ (q : Int) % 2 = 1 := by omega
              obtain ⟨u, hu⟩ : ∃ u, x * x % m = u := ⟨_, rfl⟩
              rw [hu] at HN j3 j5 lxx
              clear hu hodd
              go_wp2
              go_round
              case rel => exact ⟨q / 2, u, z, by omega, rfl, by go_num, rfl, lxx.1, lxx.2, z0, z1, HN⟩
              case measure => simp [intOf]; omega
theorem mul_rng2 {x y m : Int} (hm : m ≤ 1000000) (x0 : 0 ≤ x) (x1 : x ≤ m) (y0 : -m ≤ y) (y1 : y ≤ m) : -1000000000000 ≤ x * y ∧ x * y ≤ 1000000000000 := by
  have a1 : x * y ≤ x * m := Int.mul_le_mul_of_nonneg_left y1 x0
  have a2 : x * (-m) ≤ x * y := Int.mul_le_mul_of_nonneg_left y0 x0
  have a3 : x * m ≤ 1000000 * m := Int.mul_le_mul_of_nonneg_right (by omega) (by omega)
  rw [Int.mul_neg] at a2
  omega
theorem tmod_rng {x m : Int} (hm : 2 ≤ m) : -m < x.tmod m ∧ x.tmod m < m :=
  ⟨by have b := Int.lt_tmod_of_pos x (b := m) (by omega); omega, Int.tmod_lt_of_pos x (b := m) (by omega)⟩
set_option maxRecDepth 100000 in
set_option maxHeartbeats 4000000 in
theorem mdS_inv (a m : Int) (w : World) :
    Calls Try.prog 50 #[.int .i64 a, .int .i64 m] w fun e' w' => e' = .returned (.int .i64 (invM a m)) ∧ w = w' := by
  rcases h1 : inB m 2 1000000 with _ | _
  · have HR := Lib.hid (invM_no (a := a) (m := m) (fun q => absurd q.1 (inB_isnt h1)))
    have H1 := Lib.hid h1
    clear h1
    go_enter Try.func50, Try.ntmps50
    go_wp2_with (go_at_call 38; refine (l1In_any m 2 1000000 _).mono ?_; rintro e w' ⟨rfl, rfl⟩; rw [H1.out])
    go_ret
    exact ⟨by rw [HR.out]; rfl, rfl⟩
  · have H1 := Lib.hid h1
    have hm := inB_got h1
    have iw := IntWalk.i64_in (m - 1) (by omega)
    clear h1
    rcases h2 : inB a 0 (m - 1) with _ | _
    · have HR := Lib.hid (invM_no (a := a) (m := m) (fun q => absurd q.2 (inB_isnt h2)))
      have H2 := Lib.hid h2
      clear h2
      go_enter Try.func50, Try.ntmps50
      go_wp2_with (first | (go_at_call 38; ((with_reducible refine (l1In_any m 2 1000000 _).mono ?_); rintro e w' ⟨rfl, rfl⟩; rw [H1.out])) | (go_at_call 38; ((with_reducible refine (l1In_any a 0 (m - 1) _).mono ?_); rintro e w' ⟨rfl, rfl⟩; rw [H2.out])))
      go_ret
      exact ⟨by rw [HR.out]; rfl, rfl⟩
    · have H2 := Lib.hid h2
      have ha := inB_got h2
      clear h2
      have hin : InvIn a m := ⟨hm, ha⟩
      have HS := Lib.hid (Eu.start hin)
      have HI := Lib.hid hin
      clear hin
      go_enter Try.func50, Try.ntmps50
      go_wp2_with (first | (go_at_call 38; ((with_reducible refine (l1In_any m 2 1000000 _).mono ?_); rintro e w' ⟨rfl, rfl⟩; rw [H1.out])) | (go_at_call 38; ((with_reducible refine (l1In_any a 0 (m - 1) _).mono ?_); rintro e w' ⟨rfl, rfl⟩; rw [H2.out])))
      go_loop [5, 6, 7, 8] (fun xv yv pv qv => ∃ (x y p q : Int), xv = .int .i64 x ∧ yv = .int .i64 y ∧ pv = .int .i64 p ∧ qv = .int .i64 q ∧ Hid (Eu a m x y p q)) (fun _ _ _ qv => (intOf qv).toNat)
      case atStart => exact ⟨1, 0, a, m, rfl, rfl, rfl, rfl, HS⟩
      case round =>
        obtain ⟨x, y, p, q, rfl, rfl, rfl, rfl, hE⟩ := hrel
        have hp0 := hE.out.p0
        have hpm := hE.out.pm
        have hq0 := hE.out.q0
        have hqm := hE.out.qm
        obtain ⟨hx0, hx1, hy0, hy1⟩ := hE.out.lo
        by_cases h0 : q = 0
        · subst h0
          by_cases h1 : p = 1
          · subst h1
            have HF : Hid (invM a m = x % m) := Lib.hid (invM_of HI.out (hE.out.yes hm.1))
            have ht := tmod_rng (x := x) hm.1
            have he := eu_mod (x := x) hm.1
            have hlo := mod_lo (x := x) (m := m) (by omega)
            obtain ⟨t, ht'⟩ : ∃ t, x.tmod m = t := ⟨_, rfl⟩
            rw [ht'] at ht he
            have j1 := IntWalk.i64_in t (by omega)
            have j2 := IntWalk.i64_in (t + m) (by omega)
            have j3 := IntWalk.i64_in (x % m) (by omega)
            have hm0 : ¬ m = 0 := by omega
            have HF2 : Hid (invM a m = x % m) := HF
            obtain ⟨z, hz⟩ : ∃ z, x % m = z := ⟨_, rfl⟩
            rw [hz] at he j3 HF2
            clear hz HF ht hlo
            go_wp2
            go_ret
            exact ⟨by rw [HF2.out]; rfl, rfl⟩
          · have HF : Hid (invM a m = -1) := Lib.hid (invM_no (fun _ => hE.out.no hm.1 h1))
            have t1 : (p == 1) = false := by rw [beq_eq_false_iff_ne]; exact h1
            go_wp2
            go_ret
            exact ⟨by rw [HF.out]; rfl, rfl⟩
        · have t1 : (q == 0) = false := by rw [beq_eq_false_iff_ne]; exact h0
          obtain ⟨k0, k1, k2, k3, hr⟩ := hE.out.quo h0
          have HN := Lib.hid (hE.out.step h0)
          have hrl := Int.emod_lt_of_pos p (b := q) (by omega)
          have hrn := Int.emod_nonneg p h0
          have j0 : p.tdiv q = p / q := Int.tdiv_eq_ediv_of_nonneg hp0
          obtain ⟨k, hk⟩ : ∃ k, p / q = k := ⟨_, rfl⟩
          rw [hk] at k0 k1 k2 k3 hr HN j0
          have hky := mul_rng2 (x := k) (y := y) hm.2 k0 (by omega) hy0 hy1
          have j1 := IntWalk.i64_in k (by omega)
          have j2 := IntWalk.i64_in (k * q) (by omega)
          have j3 := IntWalk.i64_in (p - k * q) (by omega)
          have j4 := IntWalk.i64_in (k * y) (by omega)
          have j5 := IntWalk.i64_in (x - k * y) (by omega)
          have hdec : p - k * q < q := by omega
          have hdec0 : 0 ≤ p - k * q := by omega
          have hdec := Lib.hid hdec
          have hdec0 := Lib.hid hdec0
          clear hk hr hrl hrn k2 k3
          go_wp2
          go_round
          case rel => exact ⟨y, x - k * y, q, p - k * q, rfl, rfl, rfl, rfl, HN⟩
          case measure =>
            have a1 := hdec.out
            have a2 := hdec0.out
            simp [intOf]; omega
set_option maxRecDepth 100000 in
set_option maxHeartbeats 4000000 in
theorem mdS_prime (n : Int) (w : World) :
    Calls Try.prog 61 #[.int .i64 n] w fun e' w' => e' = .returned (.bool (primB n)) ∧ w = w' := by
  obtain ⟨bq, hbq⟩ : ∃ bq, inB n 2 1000 = bq := ⟨_, rfl⟩
  have HB := Lib.hid hbq
  by_cases h0 : 2 ≤ n ∧ n ≤ 1000
  · obtain ⟨h1, h2⟩ := h0
    have hbt : bq = true := by rw [← hbq]; exact inB_true h1 h2
    subst hbt
    clear hbq
    have d1 : decide (n ≤ 1000) = true := decide_eq_true h2
    go_enter Try.func61, Try.ntmps61
    go_wp2
    go_loop [3] (fun kv => ∃ k : Nat, 2 ≤ k ∧ k ≤ 32 ∧ kv = .int .i64 k ∧ Hid (∀ d : Int, 2 ≤ d → d < k → n % d ≠ 0)) (fun kv => 33 - (intOf kv).toNat)
    case atStart => exact ⟨2, by omega, by omega, rfl, Lib.hid (by intro d a b; omega)⟩
    case round =>
      obtain ⟨k, hk2, hk, rfl, hp⟩ := hrel
      have hkk : (k : Int) * (k : Int) ≤ 1024 := by
        have := Int.mul_le_mul (show (k : Int) ≤ 32 by omega) (show (k : Int) ≤ 32 by omega) (by omega) (by omega)
        omega
      have hkn : 0 ≤ (k : Int) * (k : Int) := Int.mul_nonneg (by omega) (by omega)
      have j1 := IntWalk.i64_in ((k : Int) * (k : Int)) (by omega)
      by_cases hs : (k : Int) * (k : Int) ≤ n
      · have hk31 : k ≤ 31 := by
          rcases Nat.lt_or_ge k 32 with q | q
          · omega
          · obtain rfl : k = 32 := by omega
            omega
        have hlt : (k : Int) < n := by
          have := Int.mul_le_mul_of_nonneg_left (show (2 : Int) ≤ (k : Int) by omega) (show (0 : Int) ≤ (k : Int) by omega)
          omega
        have dk : decide ((k : Int) * (k : Int) ≤ n) = true := decide_eq_true hs
        have j5 : n.tmod (k : Int) = n % (k : Int) := Int.tmod_eq_emod_of_nonneg (by omega)
        have hlo := mod_rng0 (x := n) (y := (k : Int)) (by omega)
        have j6 := IntWalk.i64_in (n % (k : Int)) (by omega)
        have hk0 : ¬ (k : Int) = 0 := by omega
        by_cases hd : n % (k : Int) = 0
        · have HR := Lib.hid (primB_not (n := n) (d := (k : Int)) (by omega) hlt hd)
          have t1 : (n % (k : Int) == 0) = true := by rw [beq_iff_eq]; exact hd
          clear hkk hkn hlo
          go_wp2
          go_ret
          exact ⟨ret_bool HR.out.symm, rfl⟩
        · have t1 : (n % (k : Int) == 0) = false := by rw [beq_eq_false_iff_ne]; exact hd
          have HN : Hid (∀ d : Int, 2 ≤ d → d < ((k + 1 : Nat) : Int) → n % d ≠ 0) := Lib.hid (fun d a b => by
            by_cases e : d = k
            · subst e; exact hd
            · exact hp.out d a (by omega))
          clear hkk hkn hlo
          go_wp2
          go_round
          case rel => exact ⟨k + 1, by omega, by omega, by go_num, HN⟩
          case measure => simp [intOf]; omega
      · have dk : decide ((k : Int) * (k : Int) ≤ n) = false := decide_eq_false hs
        have HR := Lib.hid (primB_root ⟨h1, h2⟩ (show (2 : Int) ≤ (k : Int) by omega) (by omega) hp.out)
        clear hkk hkn
        go_wp2_with (go_at_call 38; refine (l1In_any n 2 1000 _).mono ?_; rintro e w' ⟨rfl, rfl⟩; rw [HB.out])
        go_ret
        exact ⟨ret_bool HR.out.symm, rfl⟩
  · have HR := Lib.hid (primB_out h0)
    have hbt : bq = false := by rw [← hbq]; exact decide_eq_false h0
    subst hbt
    clear hbq
    by_cases h2 : n < 4
    · have dk : decide ((4 : Int) ≤ n) = false := decide_eq_false (by omega)
      go_enter Try.func61, Try.ntmps61
      go_wp2
      refine wp_loop_rounds 1 ?_
      rw [rounds_succ]
      go_wp2_with (go_at_call 38; refine (l1In_any n 2 1000 _).mono ?_; rintro e w' ⟨rfl, rfl⟩; rw [HB.out])
      go_ret
      exact ⟨ret_bool HR.out.symm, rfl⟩
    · have dk : decide ((4 : Int) ≤ n) = true := decide_eq_true (by omega)
      have d1 : decide (n ≤ 1000) = false := decide_eq_false (by omega)
      go_enter Try.func61, Try.ntmps61
      go_wp2
      refine wp_loop_rounds 1 ?_
      rw [rounds_succ]
      go_wp2_with (go_at_call 38; refine (l1In_any n 2 1000 _).mono ?_; rintro e w' ⟨rfl, rfl⟩; rw [HB.out])
      go_ret
      exact ⟨ret_bool HR.out.symm, rfl⟩
theorem kyS_rnd (a b e : Int) (w : World) (ha : PrIn a) (hb : PrIn b) :
    Calls Try.prog 51 #[.agg #[.int .i64 a, .int .i64 b, .int .i64 e]] w (GotInt (rnd ⟨a, b, e⟩) w) := by
  have ra := rnd_rng (k := ⟨a, b, e⟩) ha hb
  unfold PrIn at ha hb
  have i1 := IntWalk.i64_in (a - 1) (by omega)
  have i2 := IntWalk.i64_in (b - 1) (by omega)
  have i3 := IntWalk.i64_in ((a - 1) * (b - 1)) (by unfold rnd at ra; simp only at ra; omega)
  go_enter Try.func51, Try.ntmps51
  go_wp2
  go_ret
  exact ⟨rfl, (Below.refl _ _).alloc (Nat.le_refl _) _⟩
set_option maxRecDepth 100000 in
set_option maxHeartbeats 4000000 in
theorem kyS_valid (a b e : Int) (w : World) :
    Calls Try.prog 48 #[.agg #[.int .i64 a, .int .i64 b, .int .i64 e]] w (GotB (kyB ⟨a, b, e⟩) w) := by
  obtain ⟨w1, hw1⟩ : ∃ w1, w.alloc (.cells #[.int .i64 a, .int .i64 b, .int .i64 e] 24) = w1 := ⟨_, rfl⟩
  have hB1 : Hid (Below w.heap.size w w1) := Lib.hid (by rw [← hw1]; exact (Below.refl _ _).alloc (Nat.le_refl _) _)
  have hrow := Lib.hid (fun wX (hX : Below w1.heap.size w1 wX) => row3 hw1 hX)
  obtain ⟨y0, y1, y2⟩ := hrow.out w1 (Below.refl _ _)
  rcases h1 : inB a 11 997 with _ | _
  · have HR := Lib.hid (kyB_no (k := ⟨a, b, e⟩) (fun q => inB_isnt h1 q.o))
    have H1 := Lib.hid h1
    clear h1
    go_enter Try.func48, Try.ntmps48
    go_wp2_with (first | (go_at_call 38; ((with_reducible refine (l1In_any a 11 997 _).mono ?_); rintro e0 w' ⟨rfl, rfl⟩; rw [H1.out])))
    go_ret
    exact ⟨ret_bool HR.out.symm, hB1.out⟩
  have H1 := Lib.hid h1
  rcases h2 : inB b 11 997 with _ | _
  · have HR := Lib.hid (kyB_no (k := ⟨a, b, e⟩) (fun q => inB_isnt h2 q.t))
    have H2 := Lib.hid h2
    clear h2
    go_enter Try.func48, Try.ntmps48
    go_wp2_with (first | (go_at_call 38; ((with_reducible refine (l1In_any a 11 997 _).mono ?_); rintro e0 w' ⟨rfl, rfl⟩; rw [H1.out])) | (go_at_call 38; ((with_reducible refine (l1In_any b 11 997 _).mono ?_); rintro e0 w' ⟨rfl, rfl⟩; rw [H2.out])))
    go_ret
    exact ⟨ret_bool HR.out.symm, hB1.out⟩
  have H2 := Lib.hid h2
  rcases h3 : primB a with _ | _
  · have HR := Lib.hid (kyB_no (k := ⟨a, b, e⟩) (fun q => by have := q.po; simp only at this; rw [h3] at this; cases this))
    have H3 := Lib.hid h3
    clear h3
    go_enter Try.func48, Try.ntmps48
    go_wp2_with (first | (go_at_call 38; ((with_reducible refine (l1In_any a 11 997 _).mono ?_); rintro e0 w' ⟨rfl, rfl⟩; rw [H1.out])) | (go_at_call 38; ((with_reducible refine (l1In_any b 11 997 _).mono ?_); rintro e0 w' ⟨rfl, rfl⟩; rw [H2.out])) | (go_at_call 61; ((with_reducible refine (mdS_prime a _).mono ?_); rintro e0 w' ⟨rfl, rfl⟩; rw [H3.out])))
    go_ret
    exact ⟨ret_bool HR.out.symm, hB1.out⟩
  have H3 := Lib.hid h3
  rcases h4 : primB b with _ | _
  · have HR := Lib.hid (kyB_no (k := ⟨a, b, e⟩) (fun q => by have := q.pt; simp only at this; rw [h4] at this; cases this))
    have H4 := Lib.hid h4
    clear h4
    go_enter Try.func48, Try.ntmps48
    go_wp2_with (first | (go_at_call 38; ((with_reducible refine (l1In_any a 11 997 _).mono ?_); rintro e0 w' ⟨rfl, rfl⟩; rw [H1.out])) | (go_at_call 38; ((with_reducible refine (l1In_any b 11 997 _).mono ?_); rintro e0 w' ⟨rfl, rfl⟩; rw [H2.out])) | (go_at_call 61; ((with_reducible refine (mdS_prime a _).mono ?_); rintro e0 w' ⟨rfl, rfl⟩; rw [H3.out])) | (go_at_call 61; ((with_reducible refine (mdS_prime b _).mono ?_); rintro e0 w' ⟨rfl, rfl⟩; rw [H4.out])))
    go_ret
    exact ⟨ret_bool HR.out.symm, hB1.out⟩
  have H4 := Lib.hid h4
  by_cases h5 : a = b
  · have HR := Lib.hid (kyB_no (k := ⟨a, b, e⟩) (fun q => q.ne h5))
    have t5 : (a == b) = true := by rw [beq_iff_eq]; exact h5
    clear h5
    go_enter Try.func48, Try.ntmps48
    go_wp2_with (first | (go_at_call 38; ((with_reducible refine (l1In_any a 11 997 _).mono ?_); rintro e0 w' ⟨rfl, rfl⟩; rw [H1.out])) | (go_at_call 38; ((with_reducible refine (l1In_any b 11 997 _).mono ?_); rintro e0 w' ⟨rfl, rfl⟩; rw [H2.out])) | (go_at_call 61; ((with_reducible refine (mdS_prime a _).mono ?_); rintro e0 w' ⟨rfl, rfl⟩; rw [H3.out])) | (go_at_call 61; ((with_reducible refine (mdS_prime b _).mono ?_); rintro e0 w' ⟨rfl, rfl⟩; rw [H4.out])))
    go_ret
    exact ⟨ret_bool HR.out.symm, hB1.out⟩
  have t5 : (a == b) = false := by rw [beq_eq_false_iff_ne]; exact h5
  rcases h6 : inB e 3 1000 with _ | _
  · have HR := Lib.hid (kyB_no (k := ⟨a, b, e⟩) (fun q => inB_isnt h6 q.e))
    have H6 := Lib.hid h6
    clear h6
    go_enter Try.func48, Try.ntmps48
    go_wp2_with (first | (go_at_call 38; ((with_reducible refine (l1In_any a 11 997 _).mono ?_); rintro e0 w' ⟨rfl, rfl⟩; rw [H1.out])) | (go_at_call 38; ((with_reducible refine (l1In_any b 11 997 _).mono ?_); rintro e0 w' ⟨rfl, rfl⟩; rw [H2.out])) | (go_at_call 61; ((with_reducible refine (mdS_prime a _).mono ?_); rintro e0 w' ⟨rfl, rfl⟩; rw [H3.out])) | (go_at_call 61; ((with_reducible refine (mdS_prime b _).mono ?_); rintro e0 w' ⟨rfl, rfl⟩; rw [H4.out])) | (go_at_call 38; ((with_reducible refine (l1In_any e 3 1000 _).mono ?_); rintro e0 w' ⟨rfl, rfl⟩; rw [H6.out])))
    go_ret
    exact ⟨ret_bool HR.out.symm, hB1.out⟩
  have H6 := Lib.hid h6
  have ho : PrIn a := inB_got h1
  have ht : PrIn b := inB_got h2
  have he := inB_got h6
  have hr := rnd_rng (k := ⟨a, b, e⟩) ho ht
  obtain ⟨r, hrr⟩ : ∃ r, rnd ⟨a, b, e⟩ = r := ⟨_, rfl⟩
  have hv : kyB ⟨a, b, e⟩ = decide (0 ≤ invM (e % r) r) := by
    by_cases q : 0 ≤ invM (e % r) r
    · rw [decide_eq_true q]; exact kyB_mk ⟨ho, ht, h3, h4, h5, he, by rw [hrr]; exact q⟩
    · rw [decide_eq_false q]; exact kyB_no (fun k => q (by have := k.i; rw [hrr] at this; exact this))
  obtain ⟨d, hd⟩ : ∃ d, invM (e % r) r = d := ⟨_, rfl⟩
  rw [hd] at hv
  have HV := Lib.hid hv
  have HRR := Lib.hid hrr
  rw [hrr] at hr
  have hlo := mod_lo (x := e) (m := r) (by omega)
  have i5 : e.tmod r = e % r := Int.tmod_eq_emod_of_nonneg (by omega)
  have hr0 : ¬ r = 0 := by omega
  have iw := IntWalk.i64_in (e % r) (by omega)
  obtain ⟨x, hx⟩ : ∃ x, e % r = x := ⟨_, rfl⟩
  rw [hx] at i5 iw
  have HD : Hid (invM x r = d) := Lib.hid (by rw [← hx]; exact hd)
  have ho := Lib.hid ho
  have ht := Lib.hid ht
  clear h1 h2 h3 h4 h6 he hv hd hrr hlo hx h5
  go_enter Try.func48, Try.ntmps48
  go_wp2_with (first | (go_at_call 38; ((with_reducible refine (l1In_any a 11 997 _).mono ?_); rintro e0 w' ⟨rfl, rfl⟩; rw [H1.out])) | (go_at_call 38; ((with_reducible refine (l1In_any b 11 997 _).mono ?_); rintro e0 w' ⟨rfl, rfl⟩; rw [H2.out])) | (go_at_call 61; ((with_reducible refine (mdS_prime a _).mono ?_); rintro e0 w' ⟨rfl, rfl⟩; rw [H3.out])) | (go_at_call 61; ((with_reducible refine (mdS_prime b _).mono ?_); rintro e0 w' ⟨rfl, rfl⟩; rw [H4.out])) | (go_at_call 38; ((with_reducible refine (l1In_any e 3 1000 _).mono ?_); rintro e0 w' ⟨rfl, rfl⟩; rw [H6.out])) | fail)
  have hw1 := Lib.hid hw1
  have hS : ∀ wX, Below w1.heap.size w1 wX → (fun w' => w'.cell? ⟨w.heap.size, 0, none⟩ = some (.int .i64 a) ∧ w'.cell? ⟨w.heap.size, 1, none⟩ = some (.int .i64 b) ∧ w'.cell? ⟨w.heap.size, 2, none⟩ = some (.int .i64 e) ∧ Hid (Below w1.heap.size w1 w')) wX := fun wX hX => by
    obtain ⟨z0, z1, z2⟩ := hrow.out wX hX
    exact ⟨z0, z1, z2, Lib.hid hX⟩
  have hS := Lib.hid hS
  have hS0 := Lib.hid (hS.out _ (Below.drew (Below.refl _ _)))
  go_region_held3 (fun w' => w'.cell? ⟨w.heap.size, 0, none⟩ = some (.int .i64 a) ∧ w'.cell? ⟨w.heap.size, 1, none⟩ = some (.int .i64 b) ∧ w'.cell? ⟨w.heap.size, 2, none⟩ = some (.int .i64 e) ∧ Hid (Below w1.heap.size w1 w'))
    (first | exact hS0.out | exact hS3.out)
    (first
      | (go_at_call 51; ((refine (kyS_rnd a b e _ ho.out ht.out).mono ?_); rintro e0 w3 ⟨rfl, hb3⟩; rw [HRR.out]; go_split_ands; have hS3 := Lib.hid (hS.out w3 (below_trans' (Hid.out (by assumption)) hb3))))
      | (go_at_call 50; ((refine (mdS_inv x r _).mono ?_); rintro e0 w' ⟨rfl, rfl⟩; rw [HD.out])))
  all_goals
    go_split_ands
    rename Hid (Below w1.heap.size w1 _) => hE
    go_wp2
    go_ret
    exact ⟨ret_bool HV.out.symm, below_trans' hB1.out hE.out⟩
set_option maxRecDepth 100000 in
set_option maxHeartbeats 2000000 in
theorem kyS_mod (a b e : Int) (w : World) :
    Calls Try.prog 31 #[.agg #[.int .i64 a, .int .i64 b, .int .i64 e]] w (GotInt (kyM ⟨a, b, e⟩) w) := by
  obtain ⟨w1, hw1⟩ : ∃ w1, w.alloc (.cells #[.int .i64 a, .int .i64 b, .int .i64 e] 24) = w1 := ⟨_, rfl⟩
  have hB1 : Hid (Below w.heap.size w w1) := Lib.hid (by rw [← hw1]; exact (Below.refl _ _).alloc (Nat.le_refl _) _)
  have hrow := Lib.hid (fun wX (hX : Below w1.heap.size w1 wX) => row3 hw1 hX)
  obtain ⟨y0, y1, y2⟩ := hrow.out w1 (Below.refl _ _)
  go_enter Try.func31, Try.ntmps31
  go_wp2_with fail
  have hw1 := Lib.hid hw1
  refine (kyS_valid a b e _).mono ?_
  rintro e0 w2 ⟨rfl, hb2⟩
  have hB2 := Lib.hid (below_trans' hB1.out hb2)
  clear y0 y1 y2
  obtain ⟨y0, y1, y2⟩ := hrow.out w2 hb2
  clear hb2
  rcases hv : kyB ⟨a, b, e⟩ with _ | _
  · have HR := Lib.hid (kyM_out hv)
    clear hv
    go_wp2
    go_ret
    exact ⟨by rw [HR.out]; rfl, hB2.out⟩
  · have HR := Lib.hid (kyM_in hv)
    have hm := (kyB_of hv).mod
    simp only at hm
    have iw := IntWalk.i64_in (a * b) (by omega)
    clear hv hm
    go_wp2
    go_ret
    exact ⟨by rw [HR.out]; rfl, hB2.out⟩
set_option maxRecDepth 100000 in
set_option maxHeartbeats 4000000 in
theorem kyS_sign (a b e x : Int) (w : World) :
    Calls Try.prog 33 #[.agg #[.int .i64 a, .int .i64 b, .int .i64 e], .int .i64 x] w (GotInt (sgN ⟨a, b, e⟩ x) w) := by
  obtain ⟨w1, hw1⟩ : ∃ w1, w.alloc (.cells #[.int .i64 a, .int .i64 b, .int .i64 e] 24) = w1 := ⟨_, rfl⟩
  have hB1 : Hid (Below w.heap.size w w1) := Lib.hid (by rw [← hw1]; exact (Below.refl _ _).alloc (Nat.le_refl _) _)
  have hrow := Lib.hid (fun wX (hX : Below w1.heap.size w1 wX) => row3 hw1 hX)
  obtain ⟨y0, y1, y2⟩ := hrow.out w1 (Below.refl _ _)
  obtain ⟨n, hn⟩ : ∃ n, kyM ⟨a, b, e⟩ = n := ⟨_, rfl⟩
  have HN := Lib.hid hn
  have hnr := kyM_rng ⟨a, b, e⟩
  rw [hn] at hnr
  have iw := IntWalk.i64_in (n - 1) (by omega)
  by_cases h0 : n < 0
  · have d0 : decide (n < 0) = true := decide_eq_true h0
    have HR := Lib.hid (sgN_out (k := ⟨a, b, e⟩) (x := x) (fun q => by have := q.1; omega))
    clear hn
    go_enter Try.func33, Try.ntmps33
    go_wp2_with fail
    have hw1 := Lib.hid hw1
    refine (kyS_mod a b e _).mono ?_
    rintro e0 w2 ⟨rfl, hb2⟩
    rw [HN.out]
    have hB2 := Lib.hid (below_trans' hB1.out hb2)
    clear y0 y1 y2 hb2
    go_wp2
    go_ret
    exact ⟨by rw [HR.out]; rfl, hB2.out⟩
  · have d0 : decide (n < 0) = false := decide_eq_false h0
    rcases hx : inB x 0 (n - 1) with _ | _
    · have HR := Lib.hid (sgN_out (k := ⟨a, b, e⟩) (x := x) (fun q => by have := q.2; rw [hn] at this; exact inB_isnt hx this))
      have HX := Lib.hid hx
      clear hn hx
      go_enter Try.func33, Try.ntmps33
      go_wp2_with fail
      have hw1 := Lib.hid hw1
      refine (kyS_mod a b e _).mono ?_
      rintro e0 w2 ⟨rfl, hb2⟩
      rw [HN.out]
      have hB2 := Lib.hid (below_trans' hB1.out hb2)
      clear y0 y1 y2 hb2
      go_wp2_with (go_at_call 38; ((with_reducible refine (l1In_any x 0 (n - 1) _).mono ?_); rintro e0 w' ⟨rfl, rfl⟩; rw [HX.out]))
      go_ret
      exact ⟨by rw [HR.out]; rfl, hB2.out⟩
    · have HX := Lib.hid hx
      have hin : SgIn (kyM ⟨a, b, e⟩) x := by rw [hn]; exact ⟨by omega, inB_got hx⟩
      have hok := kyB_of (kyM_got hin.1)
      have HR := Lib.hid (sgN_in hin)
      have ho := Lib.hid hok.o
      have ht := Lib.hid hok.t
      have hr := rnd_rng hok.o hok.t
      obtain ⟨r, hrr⟩ : ∃ r, rnd ⟨a, b, e⟩ = r := ⟨_, rfl⟩
      rw [hrr] at hr
      have HRR := Lib.hid hrr
      have he := hok.e
      simp only at he
      have hlo := mod_lo (x := e) (m := r) (by omega)
      have i5 : e.tmod r = e % r := Int.tmod_eq_emod_of_nonneg (by omega)
      have hr0 : ¬ r = 0 := by omega
      have iw2 := IntWalk.i64_in (e % r) (by omega)
      obtain ⟨d, hd⟩ : ∃ d, kyD ⟨a, b, e⟩ = d := ⟨_, rfl⟩
      obtain ⟨u, hu⟩ : ∃ u, e % r = u := ⟨_, rfl⟩
      have HD : Hid (invM u r = d) := Lib.hid (by rw [← hu, ← hrr, ← hd]; rfl)
      rw [hu] at i5 iw2
      obtain ⟨z, hz⟩ : ∃ z, powM x d n = z := ⟨_, rfl⟩
      have HZ := Lib.hid hz
      have HR2 : Hid (sgN ⟨a, b, e⟩ x = z) := Lib.hid (by rw [HR.out, hd, hn]; exact hz)
      clear hn hx hin hok hr hrr he hlo hd hu hz HR
      go_enter Try.func33, Try.ntmps33
      go_wp2_with fail
      have hw1 := Lib.hid hw1
      refine (kyS_mod a b e _).mono ?_
      rintro e0 w2 ⟨rfl, hb2⟩
      rw [HN.out]
      have hB2 := Lib.hid (below_trans' hB1.out hb2)
      have hS : ∀ wX, Below w2.heap.size w2 wX → (fun w' => w'.cell? ⟨w.heap.size, 0, none⟩ = some (.int .i64 a) ∧ w'.cell? ⟨w.heap.size, 1, none⟩ = some (.int .i64 b) ∧ w'.cell? ⟨w.heap.size, 2, none⟩ = some (.int .i64 e) ∧ Hid (Below w2.heap.size w2 w')) wX := fun wX hX => by
        obtain ⟨z0, z1, z2⟩ := hrow.out wX (below_trans' hb2 hX)
        exact ⟨z0, z1, z2, Lib.hid hX⟩
      have hS := Lib.hid hS
      have hS0 := Lib.hid (hS.out _ (Below.drew (Below.refl _ _)))
      clear y0 y1 y2
      obtain ⟨y0, y1, y2⟩ := hrow.out w2 hb2
      clear hb2
      go_wp2_with (first | (go_at_call 38; ((with_reducible refine (l1In_any x 0 (n - 1) _).mono ?_); rintro e0 w' ⟨rfl, rfl⟩; rw [HX.out])) | fail)
      go_region_held3 (fun w' => w'.cell? ⟨w.heap.size, 0, none⟩ = some (.int .i64 a) ∧ w'.cell? ⟨w.heap.size, 1, none⟩ = some (.int .i64 b) ∧ w'.cell? ⟨w.heap.size, 2, none⟩ = some (.int .i64 e) ∧ Hid (Below w2.heap.size w2 w'))
        (first | exact hS0.out | exact hS3.out)
        (first
          | (go_at_call 51; ((refine (kyS_rnd a b e _ ho.out ht.out).mono ?_); rintro e0 w3 ⟨rfl, hb3⟩; rw [HRR.out]; go_split_ands; have hS3 := Lib.hid (hS.out w3 (below_trans' (Hid.out (by assumption)) hb3))))
          | (go_at_call 50; ((refine (mdS_inv u r _).mono ?_); rintro e0 w' ⟨rfl, rfl⟩; rw [HD.out]))
          | (go_at_call 49; ((refine (mdS_pow x d n _).mono ?_); rintro e0 w' ⟨rfl, rfl⟩; rw [HZ.out])))
      all_goals
        go_split_ands
        rename Hid (Below w2.heap.size w2 _) => hE
        go_wp2
        go_ret
        exact ⟨by rw [HR2.out]; rfl, below_trans' hB2.out hE.out⟩
theorem kyS_open (n e x : Int) (w : World) :
    Calls Try.prog 39 #[.int .i64 n, .int .i64 e, .int .i64 x] w fun e' w' => e' = .returned (.int .i64 (opN n e x)) ∧ w = w' := by
  rcases h1 : inB e 3 1000 with _ | _
  · have HR := Lib.hid (opN_out (n := n) (x := x) (inB_isnt h1))
    have H1 := Lib.hid h1
    clear h1
    go_enter Try.func39, Try.ntmps39
    go_wp2_with (go_at_call 38; ((with_reducible refine (l1In_any e 3 1000 _).mono ?_); rintro e0 w' ⟨rfl, rfl⟩; rw [H1.out]))
    go_ret
    exact ⟨by rw [HR.out]; rfl, rfl⟩
  · have HR := Lib.hid (opN_in (n := n) (x := x) (inB_got h1))
    have H1 := Lib.hid h1
    clear h1
    go_enter Try.func39, Try.ntmps39
    go_wp2_with (first | (go_at_call 38; ((with_reducible refine (l1In_any e 3 1000 _).mono ?_); rintro e0 w' ⟨rfl, rfl⟩; rw [H1.out])) | (go_at_call 49; ((with_reducible refine (mdS_pow x e n _).mono ?_); rintro e0 w' ⟨rfl, rfl⟩)))
    go_ret
    exact ⟨by rw [HR.out]; rfl, rfl⟩
/-- a signature and whether -/
def GotSg (P : Sg × Bool) (w : World) (e : Ending) (w' : World) : Prop := e = .returned (.tuple #[aggSg P.1, .bool P.2]) ∧ Below w.heap.size w w'
theorem frzG {w w1 wX : World} {cs : Array Value} {T : TypeId} (hw : w.alloc (.cells cs T) = w1) (hB : Below w1.heap.size w1 wX) : ∀ j, wX.frozen? ⟨w.heap.size, j, none⟩ = false := fun j => by
  subst hw
  have hX := (hB.block w.heap.size (by simp)).trans (heap_alloc_new w (.cells cs T))
  simp [World.frozen?, hX]
set_option maxRecDepth 100000 in
set_option maxHeartbeats 4000000 in
theorem sgS_text (a b e : Int) (s : ByteArray) (w : World) (hs : s.size ≤ maxLen) :
    Calls Try.prog 11 #[.agg #[.int .i64 a, .int .i64 b, .int .i64 e], .string s] w (GotSg (sgX ⟨a, b, e⟩ s) w) := by
  obtain ⟨wA, hwA⟩ : ∃ wA, w.alloc (.cells #[.int .i64 a, .int .i64 b, .int .i64 e] 24) = wA := ⟨_, rfl⟩
  obtain ⟨wB, hwB⟩ : ∃ wB, wA.alloc (.cells #[.string ⟨#[]⟩, .int .i64 0, .int .i64 0, .int .i64 0] 28) = wB := ⟨_, rfl⟩
  have hbA : Below w.heap.size w wA := by rw [← hwA]; exact (Below.refl _ _).alloc (Nat.le_refl _) _
  have hbB : Below wA.heap.size wA wB := by rw [← hwB]; exact (Below.refl _ _).alloc (Nat.le_refl _) _
  have hsA : w.heap.size < wA.heap.size := by rw [← hwA]; simp
  have hsB : wA.heap.size < wB.heap.size := by rw [← hwB]; simp
  have hrow := Lib.hid (fun wX (hX : Below wB.heap.size wB wX) => row3 hwA (below_trans' hbB hX))
  have hres := Lib.hid (fun wX (hX : Below wB.heap.size wB wX) => row4 hwB hX)
  have hfr := Lib.hid (fun wX (hX : Below wB.heap.size wB wX) => frzG hwB hX)
  have hBB := Lib.hid (below_trans' hbA hbB)
  obtain ⟨y0, y1, y2⟩ := hrow.out wB (Below.refl _ _)
  have hne : ¬ (w.heap.size = wA.heap.size) := by omega
  have hle : w.heap.size ≤ wA.heap.size := by omega
  obtain ⟨n, hn⟩ : ∃ n, kyM ⟨a, b, e⟩ = n := ⟨_, rfl⟩
  have HN := Lib.hid hn
  have hnr := kyM_rng ⟨a, b, e⟩
  rw [hn] at hnr
  go_enter Try.func11, Try.ntmps11
  go_wp2_with fail
  have hwA := Lib.hid hwA
  have hwB := Lib.hid hwB
  refine (kyS_mod a b e _).mono ?_
  rintro e0 w2 ⟨rfl, hb2⟩
  rw [HN.out]
  have HB2 := Lib.hid (below_trans' hBB.out hb2)
  have HS2 := Lib.hid HB2.out.size
  have hle := Lib.hid hle
  have hlt2 : wA.heap.size < w2.heap.size := Nat.lt_of_lt_of_le hsB hb2.size
  have hlt3 : w.heap.size < w2.heap.size := by omega
  have hne2 : ¬ (w2.heap.size = wA.heap.size) := by omega
  have hne3 : ¬ (wA.heap.size = w2.heap.size) := by omega
  have hne4 : ¬ (w.heap.size = w2.heap.size) := by omega
  clear y0 y1 y2 hbA hbB
  have hk2 := Lib.hid hb2
  obtain ⟨y0, y1, y2⟩ := hrow.out w2 hb2
  obtain ⟨z0, z1, z2, z3⟩ := hres.out w2 hb2
  have zf := hfr.out w2 hb2
  clear hb2
  by_cases h0 : n < 0
  · have hkb : kyB ⟨a, b, e⟩ = false := by
      rcases q : kyB ⟨a, b, e⟩ with _ | _
      · rfl
      · have := kyM_pos q; omega
    have HR := Lib.hid (sgX_key (s := s) hkb)
    have d0 : decide (n < 0) = true := decide_eq_true h0
    clear hkb hn
    go_wp2
    refine bodyPost_ret (v := .tuple #[.agg #[.string ⟨#[]⟩, .int .i64 0, .int .i64 0, .int .i64 0], .bool false]) (by simp [results, Try.results11, go_sem, z0, z1, z2, z3]) rfl ⟨by rw [HR.out]; rfl, ?_⟩
    repeat (first | with_reducible exact HB2.out | with_reducible refine Below.setCell ?_ hle.out _ | with_reducible refine Below.alloc ?_ (by simpa using HS2.out) _)
  · have d0 : decide (n < 0) = false := decide_eq_false h0
    have hkb : kyB ⟨a, b, e⟩ = true := kyM_got (by omega)
    rcases ht : textB s.data.toList with _ | _
    · have HR := Lib.hid (sgX_text (k := ⟨a, b, e⟩) ht)
      have HT := Lib.hid ht
      clear ht hn hkb
      go_wp2_with (go_at_call 32; refine (stext_any s _ hs).mono ?_; rintro e0 w' ⟨rfl, rfl⟩; rw [HT.out])
      refine bodyPost_ret (v := .tuple #[.agg #[.string ⟨#[]⟩, .int .i64 0, .int .i64 0, .int .i64 0], .bool false]) (by simp [results, Try.results11, go_sem, z0, z1, z2, z3]) rfl ⟨by rw [HR.out]; rfl, ?_⟩
      repeat (first | with_reducible exact HB2.out | with_reducible refine Below.setCell ?_ hle.out _ | with_reducible refine Below.alloc ?_ (by simpa using HS2.out) _)
    · have HT := Lib.hid ht
      have hR := sgX_in (s := s) hkb ht
      have hdl := dgO_lo ht
      obtain ⟨d, hd⟩ : ∃ d, dgO s.data.toList = d := ⟨_, rfl⟩
      rw [hd, hn] at hR
      rw [hd] at hdl
      have HD := Lib.hid hd
      have hn100 := kyM_pos hkb
      rw [hn] at hn100
      have hlo := mod_lo (x := d) (m := n) (by omega)
      have i5 : d.tmod n = d % n := Int.tmod_eq_emod_of_nonneg hdl.1
      have hr0 : ¬ n = 0 := by omega
      have iw2 := IntWalk.i64_in (d % n) (by omega)
      obtain ⟨u, hu⟩ : ∃ u, d % n = u := ⟨_, rfl⟩
      rw [hu] at i5 iw2 hR
      obtain ⟨z, hz⟩ : ∃ z, sgN ⟨a, b, e⟩ u = z := ⟨_, rfl⟩
      rw [hz] at hR
      have HZ := Lib.hid hz
      have HR := Lib.hid hR
      clear ht hn hkb hR hdl hd hn100 hlo hu hz
      go_wp2_with (first | (go_at_call 32; refine (stext_any s _ hs).mono ?_; rintro e0 w' ⟨rfl, rfl⟩; rw [HT.out]) | fail)
      first
        | go_region_with (first
            | (go_at_call 34; ((with_reducible refine (dgS_of s _ hs).mono ?_); rintro e0 w' ⟨rfl, rfl⟩; rw [HD.out]))
            | (go_at_call 33; ((refine (kyS_sign a b e u _).mono ?_); rintro e0 w3 ⟨rfl, hb3⟩; rw [HZ.out]; have hb3 := Lib.hid (below_trans' (Below.drew (Below.refl _ _)) hb3); have hb3' := Lib.hid (below_trans' hk2.out hb3.out); obtain ⟨x0, x1, x2⟩ := hrow.out w3 hb3'.out; obtain ⟨v0, v1, v2, v3⟩ := hres.out w3 hb3'.out; have vf := hfr.out w3 hb3'.out; have hl3 : wA.heap.size < w3.heap.size := Nat.lt_of_lt_of_le hlt2 hb3.out.size)))
        | fail
      all_goals
        have HB3 := Lib.hid (below_trans' HB2.out hb3.out)
        have HS3 := Lib.hid HB3.out.size
        go_wp2
        refine bodyPost_ret (v := .tuple #[.agg #[.string s, .int .i64 n, .int .i64 e, .int .i64 z], .bool true]) (by simp [results, Try.results11, go_sem, v0, v1, v2, v3]) rfl ⟨by rw [HR.out]; rfl, ?_⟩
        repeat (first | with_reducible exact HB3.out | with_reducible refine Below.setCell ?_ hle.out _ | with_reducible refine Below.alloc ?_ (by simpa using HS3.out) _)
theorem fitSg_text {i : Sg} (h : FitSg i) : i.text.size ≤ maxLen := fit_max h
set_option maxRecDepth 100000 in
set_option maxHeartbeats 4000000 in
theorem sgS_right (t : ByteArray) (m e g : Int) (w : World) (ht : t.size ≤ maxLen) :
    Calls Try.prog 16 #[.agg #[.string t, .int .i64 m, .int .i64 e, .int .i64 g]] w (GotB (sgR ⟨t, m, e, g⟩) w) := by
  obtain ⟨w1, hw1⟩ : ∃ w1, w.alloc (.cells #[.string t, .int .i64 m, .int .i64 e, .int .i64 g] 28) = w1 := ⟨_, rfl⟩
  have hB1 : Hid (Below w.heap.size w w1) := Lib.hid (by rw [← hw1]; exact (Below.refl _ _).alloc (Nat.le_refl _) _)
  have hrow := Lib.hid (fun wX (hX : Below w1.heap.size w1 wX) => row4 hw1 hX)
  obtain ⟨y0, y1, y2, y3⟩ := hrow.out w1 (Below.refl _ _)
  rcases h1 : textB t.data.toList with _ | _
  · have HR := Lib.hid (sgR_text (s := ⟨t, m, e, g⟩) h1)
    have H1 := Lib.hid h1
    clear h1
    go_enter Try.func16, Try.ntmps16
    go_wp2_with (go_at_call 32; refine (stext_any t _ ht).mono ?_; rintro e0 w' ⟨rfl, rfl⟩; rw [H1.out])
    go_ret
    exact ⟨ret_bool HR.out.symm, hB1.out⟩
  have H1 := Lib.hid h1
  rcases h2 : inB m 100 1000000 with _ | _
  · have HR := Lib.hid (sgR_mod (s := ⟨t, m, e, g⟩) h2)
    have H2 := Lib.hid h2
    clear h1 h2
    go_enter Try.func16, Try.ntmps16
    go_wp2_with (first | (go_at_call 32; refine (stext_any t _ ht).mono ?_; rintro e0 w' ⟨rfl, rfl⟩; rw [H1.out]) | (go_at_call 38; ((with_reducible refine (l1In_any m 100 1000000 _).mono ?_); rintro e0 w' ⟨rfl, rfl⟩; rw [H2.out])))
    go_ret
    exact ⟨ret_bool HR.out.symm, hB1.out⟩
  have H2 := Lib.hid h2
  have hm := inB_got h2
  have hR := sgR_in (s := ⟨t, m, e, g⟩) h1 h2
  simp only at hR
  have hdl := dgO_lo h1
  obtain ⟨d, hd⟩ : ∃ d, dgO t.data.toList = d := ⟨_, rfl⟩
  rw [hd] at hR hdl
  have HD := Lib.hid hd
  have hlo := mod_lo (x := d) (m := m) (by omega)
  have i5 : d.tmod m = d % m := Int.tmod_eq_emod_of_nonneg hdl.1
  have hr0 : ¬ m = 0 := by omega
  have iw2 := IntWalk.i64_in (d % m) (by omega)
  obtain ⟨u, hu⟩ : ∃ u, d % m = u := ⟨_, rfl⟩
  rw [hu] at i5 iw2 hR
  obtain ⟨z, hz⟩ : ∃ z, opN m e g = z := ⟨_, rfl⟩
  rw [hz] at hR
  have HZ := Lib.hid hz
  have HR : Hid (sgR ⟨t, m, e, g⟩ = (z == u)) := Lib.hid (by rw [hR]; by_cases q : z = u <;> simp [q])
  clear h1 h2 hm hR hdl hd hlo hu hz
  go_enter Try.func16, Try.ntmps16
  go_wp2_with (first | (go_at_call 32; refine (stext_any t _ ht).mono ?_; rintro e0 w' ⟨rfl, rfl⟩; rw [H1.out]) | (go_at_call 38; ((with_reducible refine (l1In_any m 100 1000000 _).mono ?_); rintro e0 w' ⟨rfl, rfl⟩; rw [H2.out])) | fail)
  have hw1 := Lib.hid hw1
  go_quiet (first | (go_at_call 39; exact quiet_eq ((kyS_open m e g _).mono (by rintro e0 w' ⟨rfl, rfl⟩; exact ⟨by rw [HZ.out], rfl⟩))) | (go_at_call 34; exact quiet_eq ((dgS_of t _ ht).mono (by rintro e0 w' ⟨rfl, rfl⟩; exact ⟨by rw [HD.out], rfl⟩))))
  all_goals
    go_wp2
    go_ret
    exact ⟨ret_bool HR.out.symm, Below.drawn hB1.out _⟩
/-- what the operations of the region yield -/
def QSgBa (b0 b1 : Nat) (t : ByteArray) (m u g a b e n : Int) (j : Nat) (v : Value) : Prop :=
  match j with
  | 0 => v = .agg #[.string t, .int .i64 m, .int .i64 u, .int .i64 g]
  | 1 => v = .bool false
  | 2 => v = .bool false
  | 3 => v = undef
  | 4 => v = undef
  | 5 => v = undef
  | 6 => v = undef
  | 7 => v = undef
  | 8 => v = .bool false
  | 9 => v = .bool false
  | 10 => v = undef
  | 11 => v = undef
  | 12 => v = undef
  | 13 => v = undef
  | 14 => v = undef
  | 15 => v = .bool false
  | 16 => v = .bool false
  | _ => False
/-- what the operations of the region yield -/
def QSgBb (b0 b1 : Nat) (t : ByteArray) (m u g a b e n : Int) (j : Nat) (v : Value) : Prop :=
  match j with
  | 0 => v = .agg #[.string t, .int .i64 m, .int .i64 u, .int .i64 g]
  | 1 => v = .bool true
  | 2 => v = .bool true
  | 3 => v = .agg #[.int .i64 a, .int .i64 b, .int .i64 e]
  | 4 => v = .int .i64 n
  | 5 => v = .pointer (some ⟨b0, 1, none⟩)
  | 6 => v = .int .i64 m
  | 7 => v = .bool false
  | 8 => v = .bool false
  | 9 => v = .bool false
  | 10 => v = undef
  | 11 => v = undef
  | 12 => v = undef
  | 13 => v = undef
  | 14 => v = undef
  | 15 => v = .bool false
  | 16 => v = .bool false
  | _ => False
/-- what the operations of the region yield -/
def QSgBc (b0 b1 : Nat) (t : ByteArray) (m u g a b e n : Int) (j : Nat) (v : Value) : Prop :=
  match j with
  | 0 => v = .agg #[.string t, .int .i64 m, .int .i64 u, .int .i64 g]
  | 1 => v = .bool true
  | 2 => v = .bool true
  | 3 => v = .agg #[.int .i64 a, .int .i64 b, .int .i64 e]
  | 4 => v = .int .i64 n
  | 5 => v = .pointer (some ⟨b0, 1, none⟩)
  | 6 => v = .int .i64 m
  | 7 => v = .bool true
  | 8 => v = .bool true
  | 9 => v = .bool true
  | 10 => v = .pointer (some ⟨b1, 2, none⟩)
  | 11 => v = .int .i64 e
  | 12 => v = .pointer (some ⟨b0, 2, none⟩)
  | 13 => v = .int .i64 u
  | 14 => v = .bool false
  | 15 => v = .bool false
  | 16 => v = .bool false
  | _ => False
/-- what the operations of the region yield -/
def QSgBd (b0 b1 : Nat) (t : ByteArray) (m u g a b e n : Int) (j : Nat) (v : Value) : Prop :=
  match j with
  | 0 => v = .agg #[.string t, .int .i64 m, .int .i64 u, .int .i64 g]
  | 1 => v = .bool true
  | 2 => v = .bool true
  | 3 => v = .agg #[.int .i64 a, .int .i64 b, .int .i64 e]
  | 4 => v = .int .i64 n
  | 5 => v = .pointer (some ⟨b0, 1, none⟩)
  | 6 => v = .int .i64 m
  | 7 => v = .bool true
  | 8 => v = .bool true
  | 9 => v = .bool true
  | 10 => v = .pointer (some ⟨b1, 2, none⟩)
  | 11 => v = .int .i64 e
  | 12 => v = .pointer (some ⟨b0, 2, none⟩)
  | 13 => v = .int .i64 u
  | 14 => v = .bool true
  | 15 => v = .bool true
  | 16 => v = .bool true
  | _ => False
set_option maxRecDepth 100000 in
set_option maxHeartbeats 4000000 in
theorem sgS_by (t : ByteArray) (m u g a b e : Int) (w : World) (ht : t.size ≤ maxLen) :
    Calls Try.prog 19 #[.agg #[.string t, .int .i64 m, .int .i64 u, .int .i64 g], .agg #[.int .i64 a, .int .i64 b, .int .i64 e]] w (GotB (sgY ⟨t, m, u, g⟩ ⟨a, b, e⟩) w) := by
  obtain ⟨wA, hwA⟩ : ∃ wA, w.alloc (.cells #[.string t, .int .i64 m, .int .i64 u, .int .i64 g] 28) = wA := ⟨_, rfl⟩
  obtain ⟨wB, hwB⟩ : ∃ wB, wA.alloc (.cells #[.int .i64 a, .int .i64 b, .int .i64 e] 24) = wB := ⟨_, rfl⟩
  have hbA : Below w.heap.size w wA := by rw [← hwA]; exact (Below.refl _ _).alloc (Nat.le_refl _) _
  have hbB : Below wA.heap.size wA wB := by rw [← hwB]; exact (Below.refl _ _).alloc (Nat.le_refl _) _
  have hBB := Lib.hid (below_trans' hbA hbB)
  have hrow : ∀ wX, Below wB.heap.size wB wX → wX.cell? ⟨w.heap.size, 0, none⟩ = some (.string t) ∧ wX.cell? ⟨w.heap.size, 1, none⟩ = some (.int .i64 m) ∧ wX.cell? ⟨w.heap.size, 2, none⟩ = some (.int .i64 u) ∧ wX.cell? ⟨w.heap.size, 3, none⟩ = some (.int .i64 g) ∧ wX.cell? ⟨wA.heap.size, 0, none⟩ = some (.int .i64 a) ∧ wX.cell? ⟨wA.heap.size, 1, none⟩ = some (.int .i64 b) ∧ wX.cell? ⟨wA.heap.size, 2, none⟩ = some (.int .i64 e) ∧ True := fun wX hX => by
    obtain ⟨y0, y1, y2, y3⟩ := row4 hwA (below_trans' hbB hX)
    obtain ⟨z0, z1, z2⟩ := row3 hwB hX
    exact ⟨y0, y1, y2, y3, z0, z1, z2, trivial⟩
  have hrow := Lib.hid hrow
  obtain ⟨R, hR⟩ : ∃ R, sgR ⟨t, m, u, g⟩ = R := ⟨_, rfl⟩
  obtain ⟨n, hn⟩ : ∃ n, kyM ⟨a, b, e⟩ = n := ⟨_, rfl⟩
  have HR := Lib.hid hR
  have HN := Lib.hid hn
  obtain ⟨Y, hY⟩ : ∃ Y, sgY ⟨t, m, u, g⟩ ⟨a, b, e⟩ = Y := ⟨_, rfl⟩
  have hv : (R = false → Y = false) ∧ (n ≠ m → Y = false) ∧ (e ≠ u → Y = false) ∧ (R = true → n = m → e = u → Y = true) := by
    rw [← hY, ← hR, ← hn]
    exact ⟨fun q => sgY_no q, fun q => sgY_mod q, fun q => sgY_exp q, fun p q r => sgY_yes p q r⟩
  have HY := Lib.hid hY
  obtain ⟨v0, v1, v2, v3⟩ := hv
  clear hR hn hY hbA hbB
  cases R with
  | false =>
    have hy := v0 rfl
    subst hy
    clear v0 v1 v2 v3
    go_enter Try.func19, Try.ntmps19
    go_wp2_with fail
    have hwA := Lib.hid hwA
    have hwB := Lib.hid hwB
    obtain ⟨Fr, hFr⟩ : ∃ Fr : (Nat → Value) → Act, Fr = (fun x => { tmps := #[.agg #[.string t, .int .i64 m, .int .i64 u, .int .i64 g], .agg #[.int .i64 a, .int .i64 b, .int .i64 e], .pointer (some ⟨w.heap.size, 0, none⟩), .pointer (some ⟨wA.heap.size, 0, none⟩), x 16, x 0, x 1, x 2, x 3, x 4, x 5, x 6, x 7, x 8, x 9, x 10, x 11, x 12, x 13, x 14, x 15], defers := [] }) := ⟨_, rfl⟩
    refine calm_region2 (n := 17) (by kernel_rfl) rfl Fr (fun j v _ => QSgBa w.heap.size wA.heap.size t m u g a b e n j v) (by kernel_rfl) (fun j => if j = 16 then .bool false else undef) (by rw [hFr]; rfl) (fun _ _ _ _ _ h _ => h) ?_ ?_
    · intro i o f x w4 hi ho hf hp hG hQ K hK
      subst hFr
      obtain rfl | rfl | rfl | rfl | rfl | rfl | rfl | rfl | rfl | rfl | rfl | rfl | rfl | rfl | rfl | rfl | rfl : i = 0 ∨ i = 1 ∨ i = 2 ∨ i = 3 ∨ i = 4 ∨ i = 5 ∨ i = 6 ∨ i = 7 ∨ i = 8 ∨ i = 9 ∨ i = 10 ∨ i = 11 ∨ i = 12 ∨ i = 13 ∨ i = 14 ∨ i = 15 ∨ i = 16 := by omega
      · simp at ho
        subst ho
        rw [if_pos (by rfl)]
        obtain ⟨y0, y1, y2, y3, z0, z1, z2, _⟩ := hrow.out w4 hG
        go_simp
        have key := hK _ _ rfl (Below.refl _ _)
        simp [setX] at key
        exact key
      · simp at ho
        subst ho
        have p0 : f 0 = true := edge_on (by kernel_rfl) hp
        have q0 : x 0 = .agg #[.string t, .int .i64 m, .int .i64 u, .int .i64 g] := hQ 0 (by omega) p0
        rw [if_pos (by rfl)]
        go_simp
        refine (sgS_right t m u g _ ht).mono ?_
        rintro e0 w5 ⟨rfl, hb5⟩
        rw [HR.out]
        have key := hK _ _ rfl hb5
        simp [setX, q0] at key
        exact key
      · simp at ho
        subst ho
        have p1 : f 1 = true := edge_on (by kernel_rfl) hp
        have q1 : x 1 = .bool false := hQ 1 (by omega) p1
        rw [if_pos (by rfl)]
        go_simp
        have key := hK _ _ rfl (Below.refl _ _)
        simp [setX, q1] at key
        exact key
      · simp at ho
        subst ho
        have p2 : f 2 = true := edge_on (by kernel_rfl) hp
        have q2 : x 2 = .bool false := hQ 2 (by omega) p2
        rw [if_neg (by simp [Region.wanted, yielded, q2])]
        have key := hK undef w4 rfl (Below.refl _ _)
        exact key
      · simp at ho
        subst ho
        have p2 : f 2 = true := edge_on (by kernel_rfl) hp
        have q2 : x 2 = .bool false := hQ 2 (by omega) p2
        rw [if_neg (by simp [Region.wanted, yielded, q2])]
        have key := hK undef w4 rfl (Below.refl _ _)
        exact key
      · simp at ho
        subst ho
        have p2 : f 2 = true := edge_on (by kernel_rfl) hp
        have q2 : x 2 = .bool false := hQ 2 (by omega) p2
        rw [if_neg (by simp [Region.wanted, yielded, q2])]
        have key := hK undef w4 rfl (Below.refl _ _)
        exact key
      · simp at ho
        subst ho
        have p2 : f 2 = true := edge_on (by kernel_rfl) hp
        have q2 : x 2 = .bool false := hQ 2 (by omega) p2
        rw [if_neg (by simp [Region.wanted, yielded, q2])]
        have key := hK undef w4 rfl (Below.refl _ _)
        exact key
      · simp at ho
        subst ho
        have p2 : f 2 = true := edge_on (by kernel_rfl) hp
        have q2 : x 2 = .bool false := hQ 2 (by omega) p2
        rw [if_neg (by simp [Region.wanted, yielded, q2])]
        have key := hK undef w4 rfl (Below.refl _ _)
        exact key
      · simp at ho
        subst ho
        have p2 : f 2 = true := edge_on (by kernel_rfl) hp
        have q2 : x 2 = .bool false := hQ 2 (by omega) p2
        rw [if_pos (by rfl)]
        go_simp
        have key := hK _ _ rfl (Below.refl _ _)
        simp [setX, q2] at key
        exact key
      · simp at ho
        subst ho
        have p8 : f 8 = true := edge_on (by kernel_rfl) hp
        have q8 : x 8 = .bool false := hQ 8 (by omega) p8
        rw [if_pos (by rfl)]
        go_simp
        have key := hK _ _ rfl (Below.refl _ _)
        simp [setX, q8] at key
        exact key
      · simp at ho
        subst ho
        have p9 : f 9 = true := edge_on (by kernel_rfl) hp
        have q9 : x 9 = .bool false := hQ 9 (by omega) p9
        rw [if_neg (by simp [Region.wanted, yielded, q9])]
        have key := hK undef w4 rfl (Below.refl _ _)
        exact key
      · simp at ho
        subst ho
        have p9 : f 9 = true := edge_on (by kernel_rfl) hp
        have q9 : x 9 = .bool false := hQ 9 (by omega) p9
        rw [if_neg (by simp [Region.wanted, yielded, q9])]
        have key := hK undef w4 rfl (Below.refl _ _)
        exact key
      · simp at ho
        subst ho
        have p9 : f 9 = true := edge_on (by kernel_rfl) hp
        have q9 : x 9 = .bool false := hQ 9 (by omega) p9
        rw [if_neg (by simp [Region.wanted, yielded, q9])]
        have key := hK undef w4 rfl (Below.refl _ _)
        exact key
      · simp at ho
        subst ho
        have p9 : f 9 = true := edge_on (by kernel_rfl) hp
        have q9 : x 9 = .bool false := hQ 9 (by omega) p9
        rw [if_neg (by simp [Region.wanted, yielded, q9])]
        have key := hK undef w4 rfl (Below.refl _ _)
        exact key
      · simp at ho
        subst ho
        have p9 : f 9 = true := edge_on (by kernel_rfl) hp
        have q9 : x 9 = .bool false := hQ 9 (by omega) p9
        rw [if_neg (by simp [Region.wanted, yielded, q9])]
        have key := hK undef w4 rfl (Below.refl _ _)
        exact key
      · simp at ho
        subst ho
        have p9 : f 9 = true := edge_on (by kernel_rfl) hp
        have q9 : x 9 = .bool false := hQ 9 (by omega) p9
        rw [if_pos (by rfl)]
        go_simp
        have key := hK _ _ rfl (Below.refl _ _)
        simp [setX, q9] at key
        exact key
      · simp at ho
        subst ho
        have p15 : f 15 = true := edge_on (by kernel_rfl) hp
        have q15 : x 15 = .bool false := hQ 15 (by omega) p15
        rw [if_pos (by rfl)]
        go_simp
        have key := hK _ _ rfl (Below.refl _ _)
        simp [setX, q15] at key
        exact key
    · intro x w4 hG hQ
      subst hFr
      have q16 : x 16 = .bool false := hQ 16 (by omega)
      go_wp2
      go_ret
      exact ⟨by rw [HY.out]; show Ending.returned (x 16) = _; rw [q16], below_trans' hBB.out hG⟩
  | true =>
    by_cases h1 : n = m
    · have t1 : (n == m) = true := by rw [beq_iff_eq]; exact h1
      by_cases h2 : e = u
      · have hy := v3 rfl h1 h2
        have t2 : (e == u) = true := by rw [beq_iff_eq]; exact h2
        subst hy
        clear v0 v1 v2 v3 h1 h2
        go_enter Try.func19, Try.ntmps19
        go_wp2_with fail
        have hwA := Lib.hid hwA
        have hwB := Lib.hid hwB
        obtain ⟨Fr, hFr⟩ : ∃ Fr : (Nat → Value) → Act, Fr = (fun x => { tmps := #[.agg #[.string t, .int .i64 m, .int .i64 u, .int .i64 g], .agg #[.int .i64 a, .int .i64 b, .int .i64 e], .pointer (some ⟨w.heap.size, 0, none⟩), .pointer (some ⟨wA.heap.size, 0, none⟩), x 16, x 0, x 1, x 2, x 3, x 4, x 5, x 6, x 7, x 8, x 9, x 10, x 11, x 12, x 13, x 14, x 15], defers := [] }) := ⟨_, rfl⟩
        refine calm_region2 (n := 17) (by kernel_rfl) rfl Fr (fun j v _ => QSgBd w.heap.size wA.heap.size t m u g a b e n j v) (by kernel_rfl) (fun j => if j = 16 then .bool false else undef) (by rw [hFr]; rfl) (fun _ _ _ _ _ h _ => h) ?_ ?_
        · intro i o f x w4 hi ho hf hp hG hQ K hK
          subst hFr
          obtain rfl | rfl | rfl | rfl | rfl | rfl | rfl | rfl | rfl | rfl | rfl | rfl | rfl | rfl | rfl | rfl | rfl : i = 0 ∨ i = 1 ∨ i = 2 ∨ i = 3 ∨ i = 4 ∨ i = 5 ∨ i = 6 ∨ i = 7 ∨ i = 8 ∨ i = 9 ∨ i = 10 ∨ i = 11 ∨ i = 12 ∨ i = 13 ∨ i = 14 ∨ i = 15 ∨ i = 16 := by omega
          · simp at ho
            subst ho
            rw [if_pos (by rfl)]
            obtain ⟨y0, y1, y2, y3, z0, z1, z2, _⟩ := hrow.out w4 hG
            go_simp
            have key := hK _ _ rfl (Below.refl _ _)
            simp [setX] at key
            exact key
          · simp at ho
            subst ho
            have p0 : f 0 = true := edge_on (by kernel_rfl) hp
            have q0 : x 0 = .agg #[.string t, .int .i64 m, .int .i64 u, .int .i64 g] := hQ 0 (by omega) p0
            rw [if_pos (by rfl)]
            go_simp
            refine (sgS_right t m u g _ ht).mono ?_
            rintro e0 w5 ⟨rfl, hb5⟩
            rw [HR.out]
            have key := hK _ _ rfl hb5
            simp [setX, q0] at key
            exact key
          · simp at ho
            subst ho
            have p1 : f 1 = true := edge_on (by kernel_rfl) hp
            have q1 : x 1 = .bool true := hQ 1 (by omega) p1
            rw [if_pos (by rfl)]
            go_simp
            have key := hK _ _ rfl (Below.refl _ _)
            simp [setX, q1] at key
            exact key
          · simp at ho
            subst ho
            have p2 : f 2 = true := edge_on (by kernel_rfl) hp
            have q2 : x 2 = .bool true := hQ 2 (by omega) p2
            rw [if_pos (by simp [Region.wanted, yielded, q2])]
            obtain ⟨y0, y1, y2, y3, z0, z1, z2, _⟩ := hrow.out w4 hG
            go_simp
            have key := hK _ _ rfl (Below.refl _ _)
            simp [setX, q2] at key
            exact key
          · simp at ho
            subst ho
            have p2 : f 2 = true := edge_on (by kernel_rfl) hp
            have q2 : x 2 = .bool true := hQ 2 (by omega) p2
            have p3 : f 3 = true := edge_on (by kernel_rfl) hp
            have q3 : x 3 = .agg #[.int .i64 a, .int .i64 b, .int .i64 e] := hQ 3 (by omega) p3
            rw [if_pos (by simp [Region.wanted, yielded, q2])]
            go_simp
            refine (kyS_mod a b e _).mono ?_
            rintro e0 w5 ⟨rfl, hb5⟩
            rw [HN.out]
            have key := hK _ _ rfl hb5
            simp [setX, q2, q3] at key
            exact key
          · simp at ho
            subst ho
            have p2 : f 2 = true := edge_on (by kernel_rfl) hp
            have q2 : x 2 = .bool true := hQ 2 (by omega) p2
            rw [if_pos (by simp [Region.wanted, yielded, q2])]
            go_simp
            have key := hK _ _ rfl (Below.refl _ _)
            simp [setX, q2] at key
            exact key
          · simp at ho
            subst ho
            have p2 : f 2 = true := edge_on (by kernel_rfl) hp
            have q2 : x 2 = .bool true := hQ 2 (by omega) p2
            have p5 : f 5 = true := edge_on (by kernel_rfl) hp
            have q5 : x 5 = .pointer (some ⟨w.heap.size, 1, none⟩) := hQ 5 (by omega) p5
            rw [if_pos (by simp [Region.wanted, yielded, q2])]
            obtain ⟨y0, y1, y2, y3, z0, z1, z2, _⟩ := hrow.out w4 hG
            go_simp
            have key := hK _ _ rfl (Below.refl _ _)
            simp [setX, q2, q5] at key
            exact key
          · simp at ho
            subst ho
            have p2 : f 2 = true := edge_on (by kernel_rfl) hp
            have q2 : x 2 = .bool true := hQ 2 (by omega) p2
            have p4 : f 4 = true := edge_on (by kernel_rfl) hp
            have q4 : x 4 = .int .i64 n := hQ 4 (by omega) p4
            have p6 : f 6 = true := edge_on (by kernel_rfl) hp
            have q6 : x 6 = .int .i64 m := hQ 6 (by omega) p6
            rw [if_pos (by simp [Region.wanted, yielded, q2])]
            go_simp
            have key := hK _ _ rfl (Below.refl _ _)
            simp [setX, q2, q4, q6] at key
            exact key
          · simp at ho
            subst ho
            have p2 : f 2 = true := edge_on (by kernel_rfl) hp
            have q2 : x 2 = .bool true := hQ 2 (by omega) p2
            have p7 : f 7 = true := edge_on (by kernel_rfl) hp
            have q7 : x 7 = .bool true := hQ 7 (by omega) p7
            rw [if_pos (by rfl)]
            go_simp
            have key := hK _ _ rfl (Below.refl _ _)
            simp [setX, q2, q7] at key
            exact key
          · simp at ho
            subst ho
            have p8 : f 8 = true := edge_on (by kernel_rfl) hp
            have q8 : x 8 = .bool true := hQ 8 (by omega) p8
            rw [if_pos (by rfl)]
            go_simp
            have key := hK _ _ rfl (Below.refl _ _)
            simp [setX, q8] at key
            exact key
          · simp at ho
            subst ho
            have p9 : f 9 = true := edge_on (by kernel_rfl) hp
            have q9 : x 9 = .bool true := hQ 9 (by omega) p9
            rw [if_pos (by simp [Region.wanted, yielded, q9])]
            go_simp
            have key := hK _ _ rfl (Below.refl _ _)
            simp [setX, q9] at key
            exact key
          · simp at ho
            subst ho
            have p9 : f 9 = true := edge_on (by kernel_rfl) hp
            have q9 : x 9 = .bool true := hQ 9 (by omega) p9
            have p10 : f 10 = true := edge_on (by kernel_rfl) hp
            have q10 : x 10 = .pointer (some ⟨wA.heap.size, 2, none⟩) := hQ 10 (by omega) p10
            rw [if_pos (by simp [Region.wanted, yielded, q9])]
            obtain ⟨y0, y1, y2, y3, z0, z1, z2, _⟩ := hrow.out w4 hG
            go_simp
            have key := hK _ _ rfl (Below.refl _ _)
            simp [setX, q9, q10] at key
            exact key
          · simp at ho
            subst ho
            have p9 : f 9 = true := edge_on (by kernel_rfl) hp
            have q9 : x 9 = .bool true := hQ 9 (by omega) p9
            rw [if_pos (by simp [Region.wanted, yielded, q9])]
            go_simp
            have key := hK _ _ rfl (Below.refl _ _)
            simp [setX, q9] at key
            exact key
          · simp at ho
            subst ho
            have p9 : f 9 = true := edge_on (by kernel_rfl) hp
            have q9 : x 9 = .bool true := hQ 9 (by omega) p9
            have p12 : f 12 = true := edge_on (by kernel_rfl) hp
            have q12 : x 12 = .pointer (some ⟨w.heap.size, 2, none⟩) := hQ 12 (by omega) p12
            rw [if_pos (by simp [Region.wanted, yielded, q9])]
            obtain ⟨y0, y1, y2, y3, z0, z1, z2, _⟩ := hrow.out w4 hG
            go_simp
            have key := hK _ _ rfl (Below.refl _ _)
            simp [setX, q9, q12] at key
            exact key
          · simp at ho
            subst ho
            have p9 : f 9 = true := edge_on (by kernel_rfl) hp
            have q9 : x 9 = .bool true := hQ 9 (by omega) p9
            have p11 : f 11 = true := edge_on (by kernel_rfl) hp
            have q11 : x 11 = .int .i64 e := hQ 11 (by omega) p11
            have p13 : f 13 = true := edge_on (by kernel_rfl) hp
            have q13 : x 13 = .int .i64 u := hQ 13 (by omega) p13
            rw [if_pos (by simp [Region.wanted, yielded, q9])]
            go_simp
            have key := hK _ _ rfl (Below.refl _ _)
            simp [setX, q9, q11, q13] at key
            exact key
          · simp at ho
            subst ho
            have p9 : f 9 = true := edge_on (by kernel_rfl) hp
            have q9 : x 9 = .bool true := hQ 9 (by omega) p9
            have p14 : f 14 = true := edge_on (by kernel_rfl) hp
            have q14 : x 14 = .bool true := hQ 14 (by omega) p14
            rw [if_pos (by rfl)]
            go_simp
            have key := hK _ _ rfl (Below.refl _ _)
            simp [setX, q9, q14] at key
            exact key
          · simp at ho
            subst ho
            have p15 : f 15 = true := edge_on (by kernel_rfl) hp
            have q15 : x 15 = .bool true := hQ 15 (by omega) p15
            rw [if_pos (by rfl)]
            go_simp
            have key := hK _ _ rfl (Below.refl _ _)
            simp [setX, q15] at key
            exact key
        · intro x w4 hG hQ
          subst hFr
          have q16 : x 16 = .bool true := hQ 16 (by omega)
          go_wp2
          go_ret
          exact ⟨by rw [HY.out]; show Ending.returned (x 16) = _; rw [q16], below_trans' hBB.out hG⟩
      · have hy := v2 h2
        have t2 : (e == u) = false := by rw [beq_eq_false_iff_ne]; exact h2
        subst hy
        clear v0 v1 v2 v3 h1 h2
        go_enter Try.func19, Try.ntmps19
        go_wp2_with fail
        have hwA := Lib.hid hwA
        have hwB := Lib.hid hwB
        obtain ⟨Fr, hFr⟩ : ∃ Fr : (Nat → Value) → Act, Fr = (fun x => { tmps := #[.agg #[.string t, .int .i64 m, .int .i64 u, .int .i64 g], .agg #[.int .i64 a, .int .i64 b, .int .i64 e], .pointer (some ⟨w.heap.size, 0, none⟩), .pointer (some ⟨wA.heap.size, 0, none⟩), x 16, x 0, x 1, x 2, x 3, x 4, x 5, x 6, x 7, x 8, x 9, x 10, x 11, x 12, x 13, x 14, x 15], defers := [] }) := ⟨_, rfl⟩
        refine calm_region2 (n := 17) (by kernel_rfl) rfl Fr (fun j v _ => QSgBc w.heap.size wA.heap.size t m u g a b e n j v) (by kernel_rfl) (fun j => if j = 16 then .bool false else undef) (by rw [hFr]; rfl) (fun _ _ _ _ _ h _ => h) ?_ ?_
        · intro i o f x w4 hi ho hf hp hG hQ K hK
          subst hFr
          obtain rfl | rfl | rfl | rfl | rfl | rfl | rfl | rfl | rfl | rfl | rfl | rfl | rfl | rfl | rfl | rfl | rfl : i = 0 ∨ i = 1 ∨ i = 2 ∨ i = 3 ∨ i = 4 ∨ i = 5 ∨ i = 6 ∨ i = 7 ∨ i = 8 ∨ i = 9 ∨ i = 10 ∨ i = 11 ∨ i = 12 ∨ i = 13 ∨ i = 14 ∨ i = 15 ∨ i = 16 := by omega
          · simp at ho
            subst ho
            rw [if_pos (by rfl)]
            obtain ⟨y0, y1, y2, y3, z0, z1, z2, _⟩ := hrow.out w4 hG
            go_simp
            have key := hK _ _ rfl (Below.refl _ _)
            simp [setX] at key
            exact key
          · simp at ho
            subst ho
            have p0 : f 0 = true := edge_on (by kernel_rfl) hp
            have q0 : x 0 = .agg #[.string t, .int .i64 m, .int .i64 u, .int .i64 g] := hQ 0 (by omega) p0
            rw [if_pos (by rfl)]
            go_simp
            refine (sgS_right t m u g _ ht).mono ?_
            rintro e0 w5 ⟨rfl, hb5⟩
            rw [HR.out]
            have key := hK _ _ rfl hb5
            simp [setX, q0] at key
            exact key
          · simp at ho
            subst ho
            have p1 : f 1 = true := edge_on (by kernel_rfl) hp
            have q1 : x 1 = .bool true := hQ 1 (by omega) p1
            rw [if_pos (by rfl)]
            go_simp
            have key := hK _ _ rfl (Below.refl _ _)
            simp [setX, q1] at key
            exact key
          · simp at ho
            subst ho
            have p2 : f 2 = true := edge_on (by kernel_rfl) hp
            have q2 : x 2 = .bool true := hQ 2 (by omega) p2
            rw [if_pos (by simp [Region.wanted, yielded, q2])]
            obtain ⟨y0, y1, y2, y3, z0, z1, z2, _⟩ := hrow.out w4 hG
            go_simp
            have key := hK _ _ rfl (Below.refl _ _)
            simp [setX, q2] at key
            exact key
          · simp at ho
            subst ho
            have p2 : f 2 = true := edge_on (by kernel_rfl) hp
            have q2 : x 2 = .bool true := hQ 2 (by omega) p2
            have p3 : f 3 = true := edge_on (by kernel_rfl) hp
            have q3 : x 3 = .agg #[.int .i64 a, .int .i64 b, .int .i64 e] := hQ 3 (by omega) p3
            rw [if_pos (by simp [Region.wanted, yielded, q2])]
            go_simp
            refine (kyS_mod a b e _).mono ?_
            rintro e0 w5 ⟨rfl, hb5⟩
            rw [HN.out]
            have key := hK _ _ rfl hb5
            simp [setX, q2, q3] at key
            exact key
          · simp at ho
            subst ho
            have p2 : f 2 = true := edge_on (by kernel_rfl) hp
            have q2 : x 2 = .bool true := hQ 2 (by omega) p2
            rw [if_pos (by simp [Region.wanted, yielded, q2])]
            go_simp
            have key := hK _ _ rfl (Below.refl _ _)
            simp [setX, q2] at key
            exact key
          · simp at ho
            subst ho
            have p2 : f 2 = true := edge_on (by kernel_rfl) hp
            have q2 : x 2 = .bool true := hQ 2 (by omega) p2
            have p5 : f 5 = true := edge_on (by kernel_rfl) hp
            have q5 : x 5 = .pointer (some ⟨w.heap.size, 1, none⟩) := hQ 5 (by omega) p5
            rw [if_pos (by simp [Region.wanted, yielded, q2])]
            obtain ⟨y0, y1, y2, y3, z0, z1, z2, _⟩ := hrow.out w4 hG
            go_simp
            have key := hK _ _ rfl (Below.refl _ _)
            simp [setX, q2, q5] at key
            exact key
          · simp at ho
            subst ho
            have p2 : f 2 = true := edge_on (by kernel_rfl) hp
            have q2 : x 2 = .bool true := hQ 2 (by omega) p2
            have p4 : f 4 = true := edge_on (by kernel_rfl) hp
            have q4 : x 4 = .int .i64 n := hQ 4 (by omega) p4
            have p6 : f 6 = true := edge_on (by kernel_rfl) hp
            have q6 : x 6 = .int .i64 m := hQ 6 (by omega) p6
            rw [if_pos (by simp [Region.wanted, yielded, q2])]
            go_simp
            have key := hK _ _ rfl (Below.refl _ _)
            simp [setX, q2, q4, q6] at key
            exact key
          · simp at ho
            subst ho
            have p2 : f 2 = true := edge_on (by kernel_rfl) hp
            have q2 : x 2 = .bool true := hQ 2 (by omega) p2
            have p7 : f 7 = true := edge_on (by kernel_rfl) hp
            have q7 : x 7 = .bool true := hQ 7 (by omega) p7
            rw [if_pos (by rfl)]
            go_simp
            have key := hK _ _ rfl (Below.refl _ _)
            simp [setX, q2, q7] at key
            exact key
          · simp at ho
            subst ho
            have p8 : f 8 = true := edge_on (by kernel_rfl) hp
            have q8 : x 8 = .bool true := hQ 8 (by omega) p8
            rw [if_pos (by rfl)]
            go_simp
            have key := hK _ _ rfl (Below.refl _ _)
            simp [setX, q8] at key
            exact key
          · simp at ho
            subst ho
            have p9 : f 9 = true := edge_on (by kernel_rfl) hp
            have q9 : x 9 = .bool true := hQ 9 (by omega) p9
            rw [if_pos (by simp [Region.wanted, yielded, q9])]
            go_simp
            have key := hK _ _ rfl (Below.refl _ _)
            simp [setX, q9] at key
            exact key
          · simp at ho
            subst ho
            have p9 : f 9 = true := edge_on (by kernel_rfl) hp
            have q9 : x 9 = .bool true := hQ 9 (by omega) p9
            have p10 : f 10 = true := edge_on (by kernel_rfl) hp
            have q10 : x 10 = .pointer (some ⟨wA.heap.size, 2, none⟩) := hQ 10 (by omega) p10
            rw [if_pos (by simp [Region.wanted, yielded, q9])]
            obtain ⟨y0, y1, y2, y3, z0, z1, z2, _⟩ := hrow.out w4 hG
            go_simp
            have key := hK _ _ rfl (Below.refl _ _)
            simp [setX, q9, q10] at key
            exact key
          · simp at ho
            subst ho
            have p9 : f 9 = true := edge_on (by kernel_rfl) hp
            have q9 : x 9 = .bool true := hQ 9 (by omega) p9
            rw [if_pos (by simp [Region.wanted, yielded, q9])]
            go_simp
            have key := hK _ _ rfl (Below.refl _ _)
            simp [setX, q9] at key
            exact key
          · simp at ho
            subst ho
            have p9 : f 9 = true := edge_on (by kernel_rfl) hp
            have q9 : x 9 = .bool true := hQ 9 (by omega) p9
            have p12 : f 12 = true := edge_on (by kernel_rfl) hp
            have q12 : x 12 = .pointer (some ⟨w.heap.size, 2, none⟩) := hQ 12 (by omega) p12
            rw [if_pos (by simp [Region.wanted, yielded, q9])]
            obtain ⟨y0, y1, y2, y3, z0, z1, z2, _⟩ := hrow.out w4 hG
            go_simp
            have key := hK _ _ rfl (Below.refl _ _)
            simp [setX, q9, q12] at key
            exact key
          · simp at ho
            subst ho
            have p9 : f 9 = true := edge_on (by kernel_rfl) hp
            have q9 : x 9 = .bool true := hQ 9 (by omega) p9
            have p11 : f 11 = true := edge_on (by kernel_rfl) hp
            have q11 : x 11 = .int .i64 e := hQ 11 (by omega) p11
            have p13 : f 13 = true := edge_on (by kernel_rfl) hp
            have q13 : x 13 = .int .i64 u := hQ 13 (by omega) p13
            rw [if_pos (by simp [Region.wanted, yielded, q9])]
            go_simp
            have key := hK _ _ rfl (Below.refl _ _)
            simp [setX, q9, q11, q13] at key
            exact key
          · simp at ho
            subst ho
            have p9 : f 9 = true := edge_on (by kernel_rfl) hp
            have q9 : x 9 = .bool true := hQ 9 (by omega) p9
            have p14 : f 14 = true := edge_on (by kernel_rfl) hp
            have q14 : x 14 = .bool false := hQ 14 (by omega) p14
            rw [if_pos (by rfl)]
            go_simp
            have key := hK _ _ rfl (Below.refl _ _)
            simp [setX, q9, q14] at key
            exact key
          · simp at ho
            subst ho
            have p15 : f 15 = true := edge_on (by kernel_rfl) hp
            have q15 : x 15 = .bool false := hQ 15 (by omega) p15
            rw [if_pos (by rfl)]
            go_simp
            have key := hK _ _ rfl (Below.refl _ _)
            simp [setX, q15] at key
            exact key
        · intro x w4 hG hQ
          subst hFr
          have q16 : x 16 = .bool false := hQ 16 (by omega)
          go_wp2
          go_ret
          exact ⟨by rw [HY.out]; show Ending.returned (x 16) = _; rw [q16], below_trans' hBB.out hG⟩
    · have hy := v1 h1
      have t1 : (n == m) = false := by rw [beq_eq_false_iff_ne]; exact h1
      subst hy
      clear v0 v1 v2 v3 h1
      go_enter Try.func19, Try.ntmps19
      go_wp2_with fail
      have hwA := Lib.hid hwA
      have hwB := Lib.hid hwB
      obtain ⟨Fr, hFr⟩ : ∃ Fr : (Nat → Value) → Act, Fr = (fun x => { tmps := #[.agg #[.string t, .int .i64 m, .int .i64 u, .int .i64 g], .agg #[.int .i64 a, .int .i64 b, .int .i64 e], .pointer (some ⟨w.heap.size, 0, none⟩), .pointer (some ⟨wA.heap.size, 0, none⟩), x 16, x 0, x 1, x 2, x 3, x 4, x 5, x 6, x 7, x 8, x 9, x 10, x 11, x 12, x 13, x 14, x 15], defers := [] }) := ⟨_, rfl⟩
      refine calm_region2 (n := 17) (by kernel_rfl) rfl Fr (fun j v _ => QSgBb w.heap.size wA.heap.size t m u g a b e n j v) (by kernel_rfl) (fun j => if j = 16 then .bool false else undef) (by rw [hFr]; rfl) (fun _ _ _ _ _ h _ => h) ?_ ?_
      · intro i o f x w4 hi ho hf hp hG hQ K hK
        subst hFr
        obtain rfl | rfl | rfl | rfl | rfl | rfl | rfl | rfl | rfl | rfl | rfl | rfl | rfl | rfl | rfl | rfl | rfl : i = 0 ∨ i = 1 ∨ i = 2 ∨ i = 3 ∨ i = 4 ∨ i = 5 ∨ i = 6 ∨ i = 7 ∨ i = 8 ∨ i = 9 ∨ i = 10 ∨ i = 11 ∨ i = 12 ∨ i = 13 ∨ i = 14 ∨ i = 15 ∨ i = 16 := by omega
        · simp at ho
          subst ho
          rw [if_pos (by rfl)]
          obtain ⟨y0, y1, y2, y3, z0, z1, z2, _⟩ := hrow.out w4 hG
          go_simp
          have key := hK _ _ rfl (Below.refl _ _)
          simp [setX] at key
          exact key
        · simp at ho
          subst ho
          have p0 : f 0 = true := edge_on (by kernel_rfl) hp
          have q0 : x 0 = .agg #[.string t, .int .i64 m, .int .i64 u, .int .i64 g] := hQ 0 (by omega) p0
          rw [if_pos (by rfl)]
          go_simp
          refine (sgS_right t m u g _ ht).mono ?_
          rintro e0 w5 ⟨rfl, hb5⟩
          rw [HR.out]
          have key := hK _ _ rfl hb5
          simp [setX, q0] at key
          exact key
        · simp at ho
          subst ho
          have p1 : f 1 = true := edge_on (by kernel_rfl) hp
          have q1 : x 1 = .bool true := hQ 1 (by omega) p1
          rw [if_pos (by rfl)]
          go_simp
          have key := hK _ _ rfl (Below.refl _ _)
          simp [setX, q1] at key
          exact key
        · simp at ho
          subst ho
          have p2 : f 2 = true := edge_on (by kernel_rfl) hp
          have q2 : x 2 = .bool true := hQ 2 (by omega) p2
          rw [if_pos (by simp [Region.wanted, yielded, q2])]
          obtain ⟨y0, y1, y2, y3, z0, z1, z2, _⟩ := hrow.out w4 hG
          go_simp
          have key := hK _ _ rfl (Below.refl _ _)
          simp [setX, q2] at key
          exact key
        · simp at ho
          subst ho
          have p2 : f 2 = true := edge_on (by kernel_rfl) hp
          have q2 : x 2 = .bool true := hQ 2 (by omega) p2
          have p3 : f 3 = true := edge_on (by kernel_rfl) hp
          have q3 : x 3 = .agg #[.int .i64 a, .int .i64 b, .int .i64 e] := hQ 3 (by omega) p3
          rw [if_pos (by simp [Region.wanted, yielded, q2])]
          go_simp
          refine (kyS_mod a b e _).mono ?_
          rintro e0 w5 ⟨rfl, hb5⟩
          rw [HN.out]
          have key := hK _ _ rfl hb5
          simp [setX, q2, q3] at key
          exact key
        · simp at ho
          subst ho
          have p2 : f 2 = true := edge_on (by kernel_rfl) hp
          have q2 : x 2 = .bool true := hQ 2 (by omega) p2
          rw [if_pos (by simp [Region.wanted, yielded, q2])]
          go_simp
          have key := hK _ _ rfl (Below.refl _ _)
          simp [setX, q2] at key
          exact key
        · simp at ho
          subst ho
          have p2 : f 2 = true := edge_on (by kernel_rfl) hp
          have q2 : x 2 = .bool true := hQ 2 (by omega) p2
          have p5 : f 5 = true := edge_on (by kernel_rfl) hp
          have q5 : x 5 = .pointer (some ⟨w.heap.size, 1, none⟩) := hQ 5 (by omega) p5
          rw [if_pos (by simp [Region.wanted, yielded, q2])]
          obtain ⟨y0, y1, y2, y3, z0, z1, z2, _⟩ := hrow.out w4 hG
          go_simp
          have key := hK _ _ rfl (Below.refl _ _)
          simp [setX, q2, q5] at key
          exact key
        · simp at ho
          subst ho
          have p2 : f 2 = true := edge_on (by kernel_rfl) hp
          have q2 : x 2 = .bool true := hQ 2 (by omega) p2
          have p4 : f 4 = true := edge_on (by kernel_rfl) hp
          have q4 : x 4 = .int .i64 n := hQ 4 (by omega) p4
          have p6 : f 6 = true := edge_on (by kernel_rfl) hp
          have q6 : x 6 = .int .i64 m := hQ 6 (by omega) p6
          rw [if_pos (by simp [Region.wanted, yielded, q2])]
          go_simp
          have key := hK _ _ rfl (Below.refl _ _)
          simp [setX, q2, q4, q6] at key
          exact key
        · simp at ho
          subst ho
          have p2 : f 2 = true := edge_on (by kernel_rfl) hp
          have q2 : x 2 = .bool true := hQ 2 (by omega) p2
          have p7 : f 7 = true := edge_on (by kernel_rfl) hp
          have q7 : x 7 = .bool false := hQ 7 (by omega) p7
          rw [if_pos (by rfl)]
          go_simp
          have key := hK _ _ rfl (Below.refl _ _)
          simp [setX, q2, q7] at key
          exact key
        · simp at ho
          subst ho
          have p8 : f 8 = true := edge_on (by kernel_rfl) hp
          have q8 : x 8 = .bool false := hQ 8 (by omega) p8
          rw [if_pos (by rfl)]
          go_simp
          have key := hK _ _ rfl (Below.refl _ _)
          simp [setX, q8] at key
          exact key
        · simp at ho
          subst ho
          have p9 : f 9 = true := edge_on (by kernel_rfl) hp
          have q9 : x 9 = .bool false := hQ 9 (by omega) p9
          rw [if_neg (by simp [Region.wanted, yielded, q9])]
          have key := hK undef w4 rfl (Below.refl _ _)
          exact key
        · simp at ho
          subst ho
          have p9 : f 9 = true := edge_on (by kernel_rfl) hp
          have q9 : x 9 = .bool false := hQ 9 (by omega) p9
          rw [if_neg (by simp [Region.wanted, yielded, q9])]
          have key := hK undef w4 rfl (Below.refl _ _)
          exact key
        · simp at ho
          subst ho
          have p9 : f 9 = true := edge_on (by kernel_rfl) hp
          have q9 : x 9 = .bool false := hQ 9 (by omega) p9
          rw [if_neg (by simp [Region.wanted, yielded, q9])]
          have key := hK undef w4 rfl (Below.refl _ _)
          exact key
        · simp at ho
          subst ho
          have p9 : f 9 = true := edge_on (by kernel_rfl) hp
          have q9 : x 9 = .bool false := hQ 9 (by omega) p9
          rw [if_neg (by simp [Region.wanted, yielded, q9])]
          have key := hK undef w4 rfl (Below.refl _ _)
          exact key
        · simp at ho
          subst ho
          have p9 : f 9 = true := edge_on (by kernel_rfl) hp
          have q9 : x 9 = .bool false := hQ 9 (by omega) p9
          rw [if_neg (by simp [Region.wanted, yielded, q9])]
          have key := hK undef w4 rfl (Below.refl _ _)
          exact key
        · simp at ho
          subst ho
          have p9 : f 9 = true := edge_on (by kernel_rfl) hp
          have q9 : x 9 = .bool false := hQ 9 (by omega) p9
          rw [if_pos (by rfl)]
          go_simp
          have key := hK _ _ rfl (Below.refl _ _)
          simp [setX, q9] at key
          exact key
        · simp at ho
          subst ho
          have p15 : f 15 = true := edge_on (by kernel_rfl) hp
          have q15 : x 15 = .bool false := hQ 15 (by omega) p15
          rw [if_pos (by rfl)]
          go_simp
          have key := hK _ _ rfl (Below.refl _ _)
          simp [setX, q15] at key
          exact key
      · intro x w4 hG hQ
        subst hFr
        have q16 : x 16 = .bool false := hQ 16 (by omega)
        go_wp2
        go_ret
        exact ⟨by rw [HY.out]; show Ending.returned (x 16) = _; rw [q16], below_trans' hBB.out hG⟩
end Go.Proofs.Ythniiknhbhoncaa
