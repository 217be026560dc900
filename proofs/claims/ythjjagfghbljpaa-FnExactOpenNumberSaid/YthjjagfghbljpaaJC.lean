/-
  The verifier's own text: DgS DgS2 ModS ModS2 KyS SgS SgS2.
-/
import Derived.Test.YthjjagfghbljpaaRows
import Derived.Test.YthjjagfghbljpaaJA
import Derived.Test.YthjjagfghbljpaaGc
import Derived.Test.YthjjagfghbljpaaHC
import Derived.Test.YthjjagfghbljpaaGb
import Derived.Test.YthjjagfghbljpaaJB
import Derived.IntWalk
import Derived.Test.YthjjagfghbljpaaHG
import Derived.Test.YthjjagfghbljpaaGq
import Derived.Test.YthjjagfghbljpaaGf
import Derived.Deep.RegionHeld3
import Derived.WalkKit
import Derived.ProofKit
import Derived.Below
import Derived.Lib.Hide
import Derived.Outline
import Derived.BigQuiet
import Derived.Deep.QuietTactic
import Derived.Deep.Draws
import Derived.Laws.OwnMore
import Derived.Laws.Rows
import Derived.WalkSpells
import Derived.Deep.RegionWith
namespace Go.Proofs.Ythjjagfghbljpaa
open Go.RowKit
set_option linter.unusedVariables false
theorem dg_loop {s : ByteArray} {k : Nat} (h : k < s.size) : dgL (s.data.toList.take (k + 1)) = dgS (dgL (s.data.toList.take k)) (s[k].toNat : Int) := by
  rw [btake s k h, dgL_snoc]
theorem dgN_next {L : List Int} {k : Nat} (h : k < L.length) : dgN (L.take (k + 1)) = dgT (dgN (L.take k)) L[k] := by
  rw [List.take_succ_eq_append_getElem h, dgN_snoc]
theorem gt_next {L : List Int} {k : Nat} (h : k < L.length) (p : (L.take k).all gtB = true) (q : gtB L[k] = true) : (L.take (k + 1)).all gtB = true := by
  rw [List.take_succ_eq_append_getElem h, List.all_append, p]; simp [q]
theorem inB_got {n lo hi : Int} (h : inB n lo hi = true) : lo ≤ n ∧ n ≤ hi := of_decide_eq_true h
theorem inB_isnt {n lo hi : Int} (h : inB n lo hi = false) : ¬ (lo ≤ n ∧ n ≤ hi) := of_decide_eq_false h
theorem mul_rng {x y m : Int} (hm : m ≤ 1000000) (x0 : 0 ≤ x) (x1 : x ≤ m - 1) (y0 : 0 ≤ y) (y1 : y ≤ m - 1) : 0 ≤ x * y ∧ x * y ≤ 1000000000000 :=
  ⟨Int.mul_nonneg x0 y0, Int.le_trans (Int.mul_le_mul_of_nonneg_right (show x ≤ 1000000 by omega) y0) (by omega)⟩
set_option maxRecDepth 100000 in
set_option maxHeartbeats 4000000 in
theorem mdS_pow (a e m : Int) (w : World) :
    Calls Try.prog 38 #[.int .i64 a, .int .i64 e, .int .i64 m] w fun e' w' => e' = .returned (.int .i64 (powM a e m)) ∧ w = w' := by
  rcases h1 : inB m 1 1000000 with _ | _
  · have HR := Lib.hid (powM_out (a := a) (e := e) (m := m) (fun q => inB_isnt h1 q.1))
    have H1 := Lib.hid h1
    clear h1
    go_enter Try.func38, Try.ntmps38
    go_wp2_with (go_at_call 31; refine (l1In_any m 1 1000000 _).mono ?_; rintro e w' ⟨rfl, rfl⟩; rw [H1.out])
    go_ret
    exact ⟨by rw [HR.out]; rfl, rfl⟩
  · have H1 := Lib.hid h1
    have hm := inB_got h1
    have iw := IntWalk.i64_in (m - 1) (by omega)
    clear h1
    rcases h2 : inB a 0 (m - 1) with _ | _
    · have HR := Lib.hid (powM_out (a := a) (e := e) (m := m) (fun q => inB_isnt h2 q.2.1))
      have H2 := Lib.hid h2
      clear h2
      go_enter Try.func38, Try.ntmps38
      go_wp2_with (first | (go_at_call 31; ((with_reducible refine (l1In_any m 1 1000000 _).mono ?_); rintro e w' ⟨rfl, rfl⟩; rw [H1.out])) | (go_at_call 31; ((with_reducible refine (l1In_any a 0 (m - 1) _).mono ?_); rintro e w' ⟨rfl, rfl⟩; rw [H2.out])))
      go_ret
      exact ⟨by rw [HR.out]; rfl, rfl⟩
    · have H2 := Lib.hid h2
      have ha := inB_got h2
      clear h2
      rcases h3 : inB e 0 1000000000 with _ | _
      · have HR := Lib.hid (powM_out (a := a) (e := e) (m := m) (fun q => inB_isnt h3 q.2.2))
        have H3 := Lib.hid h3
        clear h3
        go_enter Try.func38, Try.ntmps38
        go_wp2_with (first | (go_at_call 31; ((with_reducible refine (l1In_any m 1 1000000 _).mono ?_); rintro e w' ⟨rfl, rfl⟩; rw [H1.out])) | (go_at_call 31; ((with_reducible refine (l1In_any a 0 (m - 1) _).mono ?_); rintro e w' ⟨rfl, rfl⟩; rw [H2.out])) | (go_at_call 31; ((with_reducible refine (l1In_any e 0 1000000000 _).mono ?_); rintro e w' ⟨rfl, rfl⟩; rw [H3.out])))
        go_ret
        exact ⟨by rw [HR.out]; rfl, rfl⟩
      · have H3 := Lib.hid h3
        have hb := inB_got h3
        clear h3
        have HR := Lib.hid (powM_in (a := a) (e := e) (m := m) ⟨hm, ha, hb⟩)
        obtain ⟨k, rfl⟩ : ∃ k : Nat, e = k := ⟨e.toNat, by omega⟩
        have hm0 : ¬ m = 0 := by omega
        have hlo1 := mod_lo (x := 1) hm.1
        have i4 := IntWalk.i64_in (1 % m) (by omega)
        have i5 : (1 : Int).tmod m = 1 % m := Int.tmod_eq_emod_of_nonneg (by omega)
        obtain ⟨n1, hn1⟩ : ∃ n1, 1 % m = n1 := ⟨_, rfl⟩
        have HS : Hid (n1 * a ^ k % m = a ^ ((k : Int)).toNat % m) := Lib.hid (by rw [← hn1, mul_mod_l, Int.one_mul]; rfl)
        rw [hn1] at hlo1 i4 i5
        clear hn1
        have hk9 : k ≤ 1000000000 := by omega
        clear hb
        go_enter Try.func38, Try.ntmps38
        go_wp2_with (first | (go_at_call 31; ((with_reducible refine (l1In_any m 1 1000000 _).mono ?_); rintro e w' ⟨rfl, rfl⟩; rw [H1.out])) | (go_at_call 31; ((with_reducible refine (l1In_any a 0 (m - 1) _).mono ?_); rintro e w' ⟨rfl, rfl⟩; rw [H2.out])) | (go_at_call 31; ((with_reducible refine (l1In_any (k : Int) 0 1000000000 _).mono ?_); rintro e w' ⟨rfl, rfl⟩; rw [H3.out])))
        go_loop [0, 1, 7] (fun xv iv nv => ∃ (q : Nat) (x z : Int), q ≤ 1000000000 ∧ xv = .int .i64 x ∧ iv = .int .i64 q ∧ nv = .int .i64 z ∧ 0 ≤ x ∧ x ≤ m - 1 ∧ 0 ≤ z ∧ z ≤ m - 1 ∧ Hid (z * x ^ q % m = a ^ (k : Int).toNat % m)) (fun _ iv _ => (intOf iv).toNat)
        case atStart => exact ⟨k, a, n1, hk9, rfl, rfl, rfl, ha.1, ha.2, hlo1.1, hlo1.2, HS⟩
        case round =>
          obtain ⟨q, x, z, hq, rfl, rfl, rfl, x0, x1, z0, z1, hz⟩ := hrel
          by_cases h0 : q = 0
          · subst h0
            have HF : Hid (powM a (k : Int) m = z) := Lib.hid (by
              have := hz.out
              rw [Int.pow_zero, Int.mul_one, mod_self' z0 z1] at this
              rw [HR.out, this])
            go_wp2
            go_ret
            exact ⟨by rw [HF.out]; rfl, rfl⟩
          · have hq0 : (0 : Int) < (q : Int) := by omega
            have hxx := mul_rng hm.2 x0 x1 x0 x1
            have hzx := mul_rng hm.2 z0 z1 x0 x1
            have lxx := mod_lo (x := x * x) hm.1
            have lzx := mod_lo (x := z * x) hm.1
            have j1 := IntWalk.i64_in (x * x) (by omega)
            have j2 := IntWalk.i64_in (z * x) (by omega)
            have j3 := IntWalk.i64_in (x * x % m) (by omega)
            have j4 := IntWalk.i64_in (z * x % m) (by omega)
            have j5 : (x * x).tmod m = x * x % m := Int.tmod_eq_emod_of_nonneg hxx.1
            have j6 : (z * x).tmod m = z * x % m := Int.tmod_eq_emod_of_nonneg hzx.1
            by_cases hodd : q % 2 = 1
            · have HN := Lib.hid ((pow_odd (n := z) (a := x) (m := m) hodd).trans hz.out)
              have t1 : ((q : Int) % 2 == 1) = true := by rw [beq_iff_eq]; omega
              have t2 : (q : Int) % 2 = 1 := by omega
              obtain ⟨u, hu⟩ : ∃ u, x * x % m = u := ⟨_, rfl⟩
              obtain ⟨v, hv⟩ : ∃ v, z * x % m = v := ⟨_, rfl⟩
              rw [hu, hv] at HN
              rw [hu] at j3 j5 lxx
              rw [hv] at j4 j6 lzx
              clear hu hv hodd
              go_wp2
              go_round
              case rel => exact ⟨q / 2, u, v, by omega, rfl, by go_num, rfl, lxx.1, lxx.2, lzx.1, lzx.2, HN⟩
              case measure => simp [intOf]; omega
            · have HN := Lib.hid ((pow_even (n := z) (a := x) (m := m) (e := q) (by omega)).trans hz.out)
              have t1 : ((q : Int) % 2 == 1) = false := by rw [beq_eq_false_iff_ne]; omega
              have t2 : ¬ (q : Int) % 2 = 1 := by omega
              obtain ⟨u, hu⟩ : ∃ u, x * x % m = u := ⟨_, rfl⟩
              rw [hu] at HN j3 j5 lxx
              clear hu hodd
              go_wp2
              go_round
              case rel => exact ⟨q / 2, u, z, by omega, rfl, by go_num, rfl, lxx.1, lxx.2, z0, z1, HN⟩
              case measure => simp [intOf]; omega
theorem mul_rng2 {x y m : Int} (hm : m ≤ 1000000) (x0 : 0 ≤ x) (x1 : x ≤ m) (y0 : -m ≤ y) (y1 : y ≤ m) : -1000000000000 ≤ x * y ∧ x * y ≤ 1000000000000 := by
  have a1 : x * y ≤ x * m := Int.mul_le_mul_of_nonneg_left y1 x0
  have a2 : x * (-m) ≤ x * y := Int.mul_le_mul_of_nonneg_left y0 x0
  have a3 : x * m ≤ 1000000 * m := Int.mul_le_mul_of_nonneg_right (by omega) (by omega)
  rw [Int.mul_neg] at a2
  omega
theorem tmod_rng {x m : Int} (hm : 2 ≤ m) : -m < x.tmod m ∧ x.tmod m < m :=
  ⟨by have b := Int.lt_tmod_of_pos x (b := m) (by omega); omega, Int.tmod_lt_of_pos x (b := m) (by omega)⟩
set_option maxRecDepth 100000 in
set_option maxHeartbeats 4000000 in
theorem mdS_inv (a m : Int) (w : World) :
    Calls Try.prog 33 #[.int .i64 a, .int .i64 m] w fun e' w' => e' = .returned (.int .i64 (invM a m)) ∧ w = w' := by
  rcases h1 : inB m 2 1000000 with _ | _
  · have HR := Lib.hid (invM_no (a := a) (m := m) (fun q => absurd q.1 (inB_isnt h1)))
    have H1 := Lib.hid h1
    clear h1
    go_enter Try.func33, Try.ntmps33
    go_wp2_with (go_at_call 31; refine (l1In_any m 2 1000000 _).mono ?_; rintro e w' ⟨rfl, rfl⟩; rw [H1.out])
    go_ret
    exact ⟨by rw [HR.out]; rfl, rfl⟩
  · have H1 := Lib.hid h1
    have hm := inB_got h1
    have iw := IntWalk.i64_in (m - 1) (by omega)
    clear h1
    rcases h2 : inB a 0 (m - 1) with _ | _
    · have HR := Lib.hid (invM_no (a := a) (m := m) (fun q => absurd q.2 (inB_isnt h2)))
      have H2 := Lib.hid h2
      clear h2
      go_enter Try.func33, Try.ntmps33
      go_wp2_with (first | (go_at_call 31; ((with_reducible refine (l1In_any m 2 1000000 _).mono ?_); rintro e w' ⟨rfl, rfl⟩; rw [H1.out])) | (go_at_call 31; ((with_reducible refine (l1In_any a 0 (m - 1) _).mono ?_); rintro e w' ⟨rfl, rfl⟩; rw [H2.out])))
      go_ret
      exact ⟨by rw [HR.out]; rfl, rfl⟩
    · have H2 := Lib.hid h2
      have ha := inB_got h2
      clear h2
      have hin : InvIn a m := ⟨hm, ha⟩
      have HS := Lib.hid (Eu.start hin)
      have HI := Lib.hid hin
      clear hin
      go_enter Try.func33, Try.ntmps33
      go_wp2_with (first | (go_at_call 31; ((with_reducible refine (l1In_any m 2 1000000 _).mono ?_); rintro e w' ⟨rfl, rfl⟩; rw [H1.out])) | (go_at_call 31; ((with_reducible refine (l1In_any a 0 (m - 1) _).mono ?_); rintro e w' ⟨rfl, rfl⟩; rw [H2.out])))
      go_loop [5, 6, 7, 8] (fun xv yv pv qv => ∃ (x y p q : Int), xv = .int .i64 x ∧ yv = .int .i64 y ∧ pv = .int .i64 p ∧ qv = .int .i64 q ∧ Hid (Eu a m x y p q)) (fun _ _ _ qv => (intOf qv).toNat)
      case atStart => exact ⟨1, 0, a, m, rfl, rfl, rfl, rfl, HS⟩
      case round =>
        obtain ⟨x, y, p, q, rfl, rfl, rfl, rfl, hE⟩ := hrel
        have hp0 := hE.out.p0
        have hpm := hE.out.pm
        have hq0 := hE.out.q0
        have hqm := hE.out.qm
        obtain ⟨hx0, hx1, hy0, hy1⟩ := hE.out.lo
        by_cases h0 : q = 0
        · subst h0
          by_cases h1 : p = 1
          · subst h1
            have HF : Hid (invM a m = x % m) := Lib.hid (invM_of HI.out (hE.out.yes hm.1))
            have ht := tmod_rng (x := x) hm.1
            have he := eu_mod (x := x) hm.1
            have hlo := mod_lo (x := x) (m := m) (by omega)
            obtain ⟨t, ht'⟩ : ∃ t, x.tmod m = t := ⟨_, rfl⟩
            rw [ht'] at ht he
            have j1 := IntWalk.i64_in t (by omega)
            have j2 := IntWalk.i64_in (t + m) (by omega)
            have j3 := IntWalk.i64_in (x % m) (by omega)
            have hm0 : ¬ m = 0 := by omega
            have HF2 : Hid (invM a m = x % m) := HF
            obtain ⟨z, hz⟩ : ∃ z, x % m = z := ⟨_, rfl⟩
            rw [hz] at he j3 HF2
            clear hz HF ht hlo
            go_wp2
            go_ret
            exact ⟨by rw [HF2.out]; rfl, rfl⟩
          · have HF : Hid (invM a m = -1) := Lib.hid (invM_no (fun _ => hE.out.no hm.1 h1))
            have t1 : (p == 1) = false := by rw [beq_eq_false_iff_ne]; exact h1
            go_wp2
            go_ret
            exact ⟨by rw [HF.out]; rfl, rfl⟩
        · have t1 : (q == 0) = false := by rw [beq_eq_false_iff_ne]; exact h0
          obtain ⟨k0, k1, k2, k3, hr⟩ := hE.out.quo h0
          have HN := Lib.hid (hE.out.step h0)
          have hrl := Int.emod_lt_of_pos p (b := q) (by omega)
          have hrn := Int.emod_nonneg p h0
          have j0 : p.tdiv q = p / q := Int.tdiv_eq_ediv_of_nonneg hp0
          obtain ⟨k, hk⟩ : ∃ k, p / q = k := ⟨_, rfl⟩
          rw [hk] at k0 k1 k2 k3 hr HN j0
          have hky := mul_rng2 (x := k) (y := y) hm.2 k0 (by omega) hy0 hy1
          have j1 := IntWalk.i64_in k (by omega)
          have j2 := IntWalk.i64_in (k * q) (by omega)
          have j3 := IntWalk.i64_in (p - k * q) (by omega)
          have j4 := IntWalk.i64_in (k * y) (by omega)
          have j5 := IntWalk.i64_in (x - k * y) (by omega)
          have hdec : p - k * q < q := by omega
          have hdec0 : 0 ≤ p - k * q := by omega
          have hdec := Lib.hid hdec
          have hdec0 := Lib.hid hdec0
          clear hk hr hrl hrn k2 k3
          go_wp2
          go_round
          case rel => exact ⟨y, x - k * y, q, p - k * q, rfl, rfl, rfl, rfl, HN⟩
          case measure =>
            have a1 := hdec.out
            have a2 := hdec0.out
            simp [intOf]; omega
set_option maxRecDepth 100000 in
set_option maxHeartbeats 4000000 in
theorem mdS_prime (n : Int) (w : World) :
    Calls Try.prog 32 #[.int .i64 n] w fun e' w' => e' = .returned (.bool (primB n)) ∧ w = w' := by
  obtain ⟨bq, hbq⟩ : ∃ bq, inB n 2 1000 = bq := ⟨_, rfl⟩
  have HB := Lib.hid hbq
  by_cases h0 : 2 ≤ n ∧ n ≤ 1000
  · obtain ⟨h1, h2⟩ := h0
    have hbt : bq = true := by rw [← hbq]; exact inB_true h1 h2
    subst hbt
    clear hbq
    have d1 : decide (n ≤ 1000) = true := decide_eq_true h2
    go_enter Try.func32, Try.ntmps32
    go_wp2
    go_loop [3] (fun kv => ∃ k : Nat, 2 ≤ k ∧ k ≤ 32 ∧ kv = .int .i64 k ∧ Hid (∀ d : Int, 2 ≤ d → d < k → n % d ≠ 0)) (fun kv => 33 - (intOf kv).toNat)
    case atStart => exact ⟨2, by omega, by omega, rfl, Lib.hid (by intro d a b; omega)⟩
    case round =>
      obtain ⟨k, hk2, hk, rfl, hp⟩ := hrel
      have hkk : (k : Int) * (k : Int) ≤ 1024 := by
        have := Int.mul_le_mul (show (k : Int) ≤ 32 by omega) (show (k : Int) ≤ 32 by omega) (by omega) (by omega)
        omega
      have hkn : 0 ≤ (k : Int) * (k : Int) := Int.mul_nonneg (by omega) (by omega)
      have j1 := IntWalk.i64_in ((k : Int) * (k : Int)) (by omega)
      by_cases hs : (k : Int) * (k : Int) ≤ n
      · have hk31 : k ≤ 31 := by
          rcases Nat.lt_or_ge k 32 with q | q
          · omega
          · obtain rfl : k = 32 := by omega
            omega
        have hlt : (k : Int) < n := by
          have := Int.mul_le_mul_of_nonneg_left (show (2 : Int) ≤ (k : Int) by omega) (show (0 : Int) ≤ (k : Int) by omega)
          omega
        have dk : decide ((k : Int) * (k : Int) ≤ n) = true := decide_eq_true hs
        have j5 : n.tmod (k : Int) = n % (k : Int) := Int.tmod_eq_emod_of_nonneg (by omega)
        have hlo := mod_rng0 (x := n) (y := (k : Int)) (by omega)
        have j6 := IntWalk.i64_in (n % (k : Int)) (by omega)
        have hk0 : ¬ (k : Int) = 0 := by omega
        by_cases hd : n % (k : Int) = 0
        · have HR := Lib.hid (primB_not (n := n) (d := (k : Int)) (by omega) hlt hd)
          have t1 : (n % (k : Int) == 0) = true := by rw [beq_iff_eq]; exact hd
          clear hkk hkn hlo
          go_wp2
          go_ret
          exact ⟨ret_bool HR.out.symm, rfl⟩
        · have t1 : (n % (k : Int) == 0) = false := by rw [beq_eq_false_iff_ne]; exact hd
          have HN : Hid (∀ d : Int, 2 ≤ d → d < ((k + 1 : Nat) : Int) → n % d ≠ 0) := Lib.hid (fun d a b => by
            by_cases e : d = k
            · subst e; exact hd
            · exact hp.out d a (by omega))
          clear hkk hkn hlo
          go_wp2
          go_round
          case rel => exact ⟨k + 1, by omega, by omega, by go_num, HN⟩
          case measure => simp [intOf]; omega
      · have dk : decide ((k : Int) * (k : Int) ≤ n) = false := decide_eq_false hs
        have HR := Lib.hid (primB_root ⟨h1, h2⟩ (show (2 : Int) ≤ (k : Int) by omega) (by omega) hp.out)
        clear hkk hkn
        go_wp2_with (go_at_call 31; refine (l1In_any n 2 1000 _).mono ?_; rintro e w' ⟨rfl, rfl⟩; rw [HB.out])
        go_ret
        exact ⟨ret_bool HR.out.symm, rfl⟩
  · have HR := Lib.hid (primB_out h0)
    have hbt : bq = false := by rw [← hbq]; exact decide_eq_false h0
    subst hbt
    clear hbq
    by_cases h2 : n < 4
    · have dk : decide ((4 : Int) ≤ n) = false := decide_eq_false (by omega)
      go_enter Try.func32, Try.ntmps32
      go_wp2
      refine wp_loop_rounds 1 ?_
      rw [rounds_succ]
      go_wp2_with (go_at_call 31; refine (l1In_any n 2 1000 _).mono ?_; rintro e w' ⟨rfl, rfl⟩; rw [HB.out])
      go_ret
      exact ⟨ret_bool HR.out.symm, rfl⟩
    · have dk : decide ((4 : Int) ≤ n) = true := decide_eq_true (by omega)
      have d1 : decide (n ≤ 1000) = false := decide_eq_false (by omega)
      go_enter Try.func32, Try.ntmps32
      go_wp2
      refine wp_loop_rounds 1 ?_
      rw [rounds_succ]
      go_wp2_with (go_at_call 31; refine (l1In_any n 2 1000 _).mono ?_; rintro e w' ⟨rfl, rfl⟩; rw [HB.out])
      go_ret
      exact ⟨ret_bool HR.out.symm, rfl⟩
theorem kyS_rnd (a b e : Int) (w : World) (ha : PrIn a) (hb : PrIn b) :
    Calls Try.prog 34 #[.agg #[.int .i64 a, .int .i64 b, .int .i64 e]] w (GotInt (rnd ⟨a, b, e⟩) w) := by
  have ra := rnd_rng (k := ⟨a, b, e⟩) ha hb
  unfold PrIn at ha hb
  have i1 := IntWalk.i64_in (a - 1) (by omega)
  have i2 := IntWalk.i64_in (b - 1) (by omega)
  have i3 := IntWalk.i64_in ((a - 1) * (b - 1)) (by unfold rnd at ra; simp only at ra; omega)
  go_enter Try.func34, Try.ntmps34
  go_wp2
  go_ret
  exact ⟨rfl, (Below.refl _ _).alloc (Nat.le_refl _) _⟩
set_option maxRecDepth 100000 in
set_option maxHeartbeats 4000000 in
theorem kyS_valid (a b e : Int) (w : World) :
    Calls Try.prog 13 #[.agg #[.int .i64 a, .int .i64 b, .int .i64 e]] w (GotB (kyB ⟨a, b, e⟩) w) := by
  obtain ⟨w1, hw1⟩ : ∃ w1, w.alloc (.cells #[.int .i64 a, .int .i64 b, .int .i64 e] 24) = w1 := ⟨_, rfl⟩
  have hB1 : Hid (Below w.heap.size w w1) := Lib.hid (by rw [← hw1]; exact (Below.refl _ _).alloc (Nat.le_refl _) _)
  have hrow := Lib.hid (fun wX (hX : Below w1.heap.size w1 wX) => row3 hw1 hX)
  obtain ⟨y0, y1, y2⟩ := hrow.out w1 (Below.refl _ _)
  rcases h1 : inB a 11 997 with _ | _
  · have HR := Lib.hid (kyB_no (k := ⟨a, b, e⟩) (fun q => inB_isnt h1 q.o))
    have H1 := Lib.hid h1
    clear h1
    go_enter Try.func13, Try.ntmps13
    go_wp2_with (first | (go_at_call 31; ((with_reducible refine (l1In_any a 11 997 _).mono ?_); rintro e0 w' ⟨rfl, rfl⟩; rw [H1.out])))
    go_ret
    exact ⟨ret_bool HR.out.symm, hB1.out⟩
  have H1 := Lib.hid h1
  rcases h2 : inB b 11 997 with _ | _
  · have HR := Lib.hid (kyB_no (k := ⟨a, b, e⟩) (fun q => inB_isnt h2 q.t))
    have H2 := Lib.hid h2
    clear h2
    go_enter Try.func13, Try.ntmps13
    go_wp2_with (first | (go_at_call 31; ((with_reducible refine (l1In_any a 11 997 _).mono ?_); rintro e0 w' ⟨rfl, rfl⟩; rw [H1.out])) | (go_at_call 31; ((with_reducible refine (l1In_any b 11 997 _).mono ?_); rintro e0 w' ⟨rfl, rfl⟩; rw [H2.out])))
    go_ret
    exact ⟨ret_bool HR.out.symm, hB1.out⟩
  have H2 := Lib.hid h2
  rcases h3 : primB a with _ | _
  · have HR := Lib.hid (kyB_no (k := ⟨a, b, e⟩) (fun q => by have := q.po; simp only at this; rw [h3] at this; cases this))
    have H3 := Lib.hid h3
    clear h3
    go_enter Try.func13, Try.ntmps13
    go_wp2_with (first | (go_at_call 31; ((with_reducible refine (l1In_any a 11 997 _).mono ?_); rintro e0 w' ⟨rfl, rfl⟩; rw [H1.out])) | (go_at_call 31; ((with_reducible refine (l1In_any b 11 997 _).mono ?_); rintro e0 w' ⟨rfl, rfl⟩; rw [H2.out])) | (go_at_call 32; ((with_reducible refine (mdS_prime a _).mono ?_); rintro e0 w' ⟨rfl, rfl⟩; rw [H3.out])))
    go_ret
    exact ⟨ret_bool HR.out.symm, hB1.out⟩
  have H3 := Lib.hid h3
  rcases h4 : primB b with _ | _
  · have HR := Lib.hid (kyB_no (k := ⟨a, b, e⟩) (fun q => by have := q.pt; simp only at this; rw [h4] at this; cases this))
    have H4 := Lib.hid h4
    clear h4
    go_enter Try.func13, Try.ntmps13
    go_wp2_with (first | (go_at_call 31; ((with_reducible refine (l1In_any a 11 997 _).mono ?_); rintro e0 w' ⟨rfl, rfl⟩; rw [H1.out])) | (go_at_call 31; ((with_reducible refine (l1In_any b 11 997 _).mono ?_); rintro e0 w' ⟨rfl, rfl⟩; rw [H2.out])) | (go_at_call 32; ((with_reducible refine (mdS_prime a _).mono ?_); rintro e0 w' ⟨rfl, rfl⟩; rw [H3.out])) | (go_at_call 32; ((with_reducible refine (mdS_prime b _).mono ?_); rintro e0 w' ⟨rfl, rfl⟩; rw [H4.out])))
    go_ret
    exact ⟨ret_bool HR.out.symm, hB1.out⟩
  have H4 := Lib.hid h4
  by_cases h5 : a = b
  · have HR := Lib.hid (kyB_no (k := ⟨a, b, e⟩) (fun q => q.ne h5))
    have t5 : (a == b) = true := by rw [beq_iff_eq]; exact h5
    clear h5
    go_enter Try.func13, Try.ntmps13
    go_wp2_with (first | (go_at_call 31; ((with_reducible refine (l1In_any a 11 997 _).mono ?_); rintro e0 w' ⟨rfl, rfl⟩; rw [H1.out])) | (go_at_call 31; ((with_reducible refine (l1In_any b 11 997 _).mono ?_); rintro e0 w' ⟨rfl, rfl⟩; rw [H2.out])) | (go_at_call 32; ((with_reducible refine (mdS_prime a _).mono ?_); rintro e0 w' ⟨rfl, rfl⟩; rw [H3.out])) | (go_at_call 32; ((with_reducible refine (mdS_prime b _).mono ?_); rintro e0 w' ⟨rfl, rfl⟩; rw [H4.out])))
    go_ret
    exact ⟨ret_bool HR.out.symm, hB1.out⟩
  have t5 : (a == b) = false := by rw [beq_eq_false_iff_ne]; exact h5
  rcases h6 : inB e 3 1000 with _ | _
  · have HR := Lib.hid (kyB_no (k := ⟨a, b, e⟩) (fun q => inB_isnt h6 q.e))
    have H6 := Lib.hid h6
    clear h6
    go_enter Try.func13, Try.ntmps13
    go_wp2_with (first | (go_at_call 31; ((with_reducible refine (l1In_any a 11 997 _).mono ?_); rintro e0 w' ⟨rfl, rfl⟩; rw [H1.out])) | (go_at_call 31; ((with_reducible refine (l1In_any b 11 997 _).mono ?_); rintro e0 w' ⟨rfl, rfl⟩; rw [H2.out])) | (go_at_call 32; ((with_reducible refine (mdS_prime a _).mono ?_); rintro e0 w' ⟨rfl, rfl⟩; rw [H3.out])) | (go_at_call 32; ((with_reducible refine (mdS_prime b _).mono ?_); rintro e0 w' ⟨rfl, rfl⟩; rw [H4.out])) | (go_at_call 31; ((with_reducible refine (l1In_any e 3 1000 _).mono ?_); rintro e0 w' ⟨rfl, rfl⟩; rw [H6.out])))
    go_ret
    exact ⟨ret_bool HR.out.symm, hB1.out⟩
  have H6 := Lib.hid h6
  have ho : PrIn a := inB_got h1
  have ht : PrIn b := inB_got h2
  have he := inB_got h6
  have hr := rnd_rng (k := ⟨a, b, e⟩) ho ht
  obtain ⟨r, hrr⟩ : ∃ r, rnd ⟨a, b, e⟩ = r := ⟨_, rfl⟩
  have hv : kyB ⟨a, b, e⟩ = decide (0 ≤ invM (e % r) r) := by
    by_cases q : 0 ≤ invM (e % r) r
    · rw [decide_eq_true q]; exact kyB_mk ⟨ho, ht, h3, h4, h5, he, by rw [hrr]; exact q⟩
    · rw [decide_eq_false q]; exact kyB_no (fun k => q (by have := k.i; rw [hrr] at this; exact this))
  obtain ⟨d, hd⟩ : ∃ d, invM (e % r) r = d := ⟨_, rfl⟩
  rw [hd] at hv
  have HV := Lib.hid hv
  have HRR := Lib.hid hrr
  rw [hrr] at hr
  have hlo := mod_lo (x := e) (m := r) (by omega)
  have i5 : e.tmod r = e % r := Int.tmod_eq_emod_of_nonneg (by omega)
  have hr0 : ¬ r = 0 := by omega
  have iw := IntWalk.i64_in (e % r) (by omega)
  obtain ⟨x, hx⟩ : ∃ x, e % r = x := ⟨_, rfl⟩
  rw [hx] at i5 iw
  have HD : Hid (invM x r = d) := Lib.hid (by rw [← hx]; exact hd)
  have ho := Lib.hid ho
  have ht := Lib.hid ht
  clear h1 h2 h3 h4 h6 he hv hd hrr hlo hx h5
  go_enter Try.func13, Try.ntmps13
  go_wp2_with (first | (go_at_call 31; ((with_reducible refine (l1In_any a 11 997 _).mono ?_); rintro e0 w' ⟨rfl, rfl⟩; rw [H1.out])) | (go_at_call 31; ((with_reducible refine (l1In_any b 11 997 _).mono ?_); rintro e0 w' ⟨rfl, rfl⟩; rw [H2.out])) | (go_at_call 32; ((with_reducible refine (mdS_prime a _).mono ?_); rintro e0 w' ⟨rfl, rfl⟩; rw [H3.out])) | (go_at_call 32; ((with_reducible refine (mdS_prime b _).mono ?_); rintro e0 w' ⟨rfl, rfl⟩; rw [H4.out])) | (go_at_call 31; ((with_reducible refine (l1In_any e 3 1000 _).mono ?_); rintro e0 w' ⟨rfl, rfl⟩; rw [H6.out])) | fail)
  have hw1 := Lib.hid hw1
  have hS : ∀ wX, Below w1.heap.size w1 wX → (fun w' => w'.cell? ⟨w.heap.size, 0, none⟩ = some (.int .i64 a) ∧ w'.cell? ⟨w.heap.size, 1, none⟩ = some (.int .i64 b) ∧ w'.cell? ⟨w.heap.size, 2, none⟩ = some (.int .i64 e) ∧ Hid (Below w1.heap.size w1 w')) wX := fun wX hX => by
    obtain ⟨z0, z1, z2⟩ := hrow.out wX hX
    exact ⟨z0, z1, z2, Lib.hid hX⟩
  have hS := Lib.hid hS
  have hS0 := Lib.hid (hS.out _ (Below.drew (Below.refl _ _)))
  go_region_held3 (fun w' => w'.cell? ⟨w.heap.size, 0, none⟩ = some (.int .i64 a) ∧ w'.cell? ⟨w.heap.size, 1, none⟩ = some (.int .i64 b) ∧ w'.cell? ⟨w.heap.size, 2, none⟩ = some (.int .i64 e) ∧ Hid (Below w1.heap.size w1 w'))
    (first | exact hS0.out | exact hS3.out)
    (first
      | (go_at_call 34; ((refine (kyS_rnd a b e _ ho.out ht.out).mono ?_); rintro e0 w3 ⟨rfl, hb3⟩; rw [HRR.out]; go_split_ands; have hS3 := Lib.hid (hS.out w3 (below_trans' (Hid.out (by assumption)) hb3))))
      | (go_at_call 33; ((refine (mdS_inv x r _).mono ?_); rintro e0 w' ⟨rfl, rfl⟩; rw [HD.out])))
  all_goals
    go_split_ands
    rename Hid (Below w1.heap.size w1 _) => hE
    go_wp2
    go_ret
    exact ⟨ret_bool HV.out.symm, below_trans' hB1.out hE.out⟩
set_option maxRecDepth 100000 in
set_option maxHeartbeats 2000000 in
theorem kyS_mod (a b e : Int) (w : World) :
    Calls Try.prog 17 #[.agg #[.int .i64 a, .int .i64 b, .int .i64 e]] w (GotInt (kyM ⟨a, b, e⟩) w) := by
  obtain ⟨w1, hw1⟩ : ∃ w1, w.alloc (.cells #[.int .i64 a, .int .i64 b, .int .i64 e] 24) = w1 := ⟨_, rfl⟩
  have hB1 : Hid (Below w.heap.size w w1) := Lib.hid (by rw [← hw1]; exact (Below.refl _ _).alloc (Nat.le_refl _) _)
  have hrow := Lib.hid (fun wX (hX : Below w1.heap.size w1 wX) => row3 hw1 hX)
  obtain ⟨y0, y1, y2⟩ := hrow.out w1 (Below.refl _ _)
  go_enter Try.func17, Try.ntmps17
  go_wp2_with fail
  have hw1 := Lib.hid hw1
  refine (kyS_valid a b e _).mono ?_
  rintro e0 w2 ⟨rfl, hb2⟩
  have hB2 := Lib.hid (below_trans' hB1.out hb2)
  clear y0 y1 y2
  obtain ⟨y0, y1, y2⟩ := hrow.out w2 hb2
  clear hb2
  rcases hv : kyB ⟨a, b, e⟩ with _ | _
  · have HR := Lib.hid (kyM_out hv)
    clear hv
    go_wp2
    go_ret
    exact ⟨by rw [HR.out]; rfl, hB2.out⟩
  · have HR := Lib.hid (kyM_in hv)
    have hm := (kyB_of hv).mod
    simp only at hm
    have iw := IntWalk.i64_in (a * b) (by omega)
    clear hv hm
    go_wp2
    go_ret
    exact ⟨by rw [HR.out]; rfl, hB2.out⟩
set_option maxRecDepth 100000 in
set_option maxHeartbeats 4000000 in
theorem kyS_sign (a b e x : Int) (w : World) :
    Calls Try.prog 20 #[.agg #[.int .i64 a, .int .i64 b, .int .i64 e], .int .i64 x] w (GotInt (sgN ⟨a, b, e⟩ x) w) := by
  obtain ⟨w1, hw1⟩ : ∃ w1, w.alloc (.cells #[.int .i64 a, .int .i64 b, .int .i64 e] 24) = w1 := ⟨_, rfl⟩
  have hB1 : Hid (Below w.heap.size w w1) := Lib.hid (by rw [← hw1]; exact (Below.refl _ _).alloc (Nat.le_refl _) _)
  have hrow := Lib.hid (fun wX (hX : Below w1.heap.size w1 wX) => row3 hw1 hX)
  obtain ⟨y0, y1, y2⟩ := hrow.out w1 (Below.refl _ _)
  obtain ⟨n, hn⟩ : ∃ n, kyM ⟨a, b, e⟩ = n := ⟨_, rfl⟩
  have HN := Lib.hid hn
  have hnr := kyM_rng ⟨a, b, e⟩
  rw [hn] at hnr
  have iw := IntWalk.i64_in (n - 1) (by omega)
  by_cases h0 : n < 0
  · have d0 : decide (n < 0) = true := decide_eq_true h0
    have HR := Lib.hid (sgN_out (k := ⟨a, b, e⟩) (x := x) (fun q => by have := q.1; omega))
    clear hn
    go_enter Try.func20, Try.ntmps20
    go_wp2_with fail
    have hw1 := Lib.hid hw1
    refine (kyS_mod a b e _).mono ?_
    rintro e0 w2 ⟨rfl, hb2⟩
    rw [HN.out]
    have hB2 := Lib.hid (below_trans' hB1.out hb2)
    clear y0 y1 y2 hb2
    go_wp2
    go_ret
    exact ⟨by rw [HR.out]; rfl, hB2.out⟩
  · have d0 : decide (n < 0) = false := decide_eq_false h0
    rcases hx : inB x 0 (n - 1) with _ | _
    · have HR := Lib.hid (sgN_out (k := ⟨a, b, e⟩) (x := x) (fun q => by have := q.2; rw [hn] at this; exact inB_isnt hx this))
      have HX := Lib.hid hx
      clear hn hx
      go_enter Try.func20, Try.ntmps20
      go_wp2_with fail
      have hw1 := Lib.hid hw1
      refine (kyS_mod a b e _).mono ?_
      rintro e0 w2 ⟨rfl, hb2⟩
      rw [HN.out]
      have hB2 := Lib.hid (below_trans' hB1.out hb2)
      clear y0 y1 y2 hb2
      go_wp2_with (go_at_call 31; ((with_reducible refine (l1In_any x 0 (n - 1) _).mono ?_); rintro e0 w' ⟨rfl, rfl⟩; rw [HX.out]))
      go_ret
      exact ⟨by rw [HR.out]; rfl, hB2.out⟩
    · have HX := Lib.hid hx
      have hin : SgIn (kyM ⟨a, b, e⟩) x := by rw [hn]; exact ⟨by omega, inB_got hx⟩
      have hok := kyB_of (kyM_got hin.1)
      have HR := Lib.hid (sgN_in hin)
      have ho := Lib.hid hok.o
      have ht := Lib.hid hok.t
      have hr := rnd_rng hok.o hok.t
      obtain ⟨r, hrr⟩ : ∃ r, rnd ⟨a, b, e⟩ = r := ⟨_, rfl⟩
      rw [hrr] at hr
      have HRR := Lib.hid hrr
      have he := hok.e
      simp only at he
      have hlo := mod_lo (x := e) (m := r) (by omega)
      have i5 : e.tmod r = e % r := Int.tmod_eq_emod_of_nonneg (by omega)
      have hr0 : ¬ r = 0 := by omega
      have iw2 := IntWalk.i64_in (e % r) (by omega)
      obtain ⟨d, hd⟩ : ∃ d, kyD ⟨a, b, e⟩ = d := ⟨_, rfl⟩
      obtain ⟨u, hu⟩ : ∃ u, e % r = u := ⟨_, rfl⟩
      have HD : Hid (invM u r = d) := Lib.hid (by rw [← hu, ← hrr, ← hd]; rfl)
      rw [hu] at i5 iw2
      obtain ⟨z, hz⟩ : ∃ z, powM x d n = z := ⟨_, rfl⟩
      have HZ := Lib.hid hz
      have HR2 : Hid (sgN ⟨a, b, e⟩ x = z) := Lib.hid (by rw [HR.out, hd, hn]; exact hz)
      clear hn hx hin hok hr hrr he hlo hd hu hz HR
      go_enter Try.func20, Try.ntmps20
      go_wp2_with fail
      have hw1 := Lib.hid hw1
      refine (kyS_mod a b e _).mono ?_
      rintro e0 w2 ⟨rfl, hb2⟩
      rw [HN.out]
      have hB2 := Lib.hid (below_trans' hB1.out hb2)
      have hS : ∀ wX, Below w2.heap.size w2 wX → (fun w' => w'.cell? ⟨w.heap.size, 0, none⟩ = some (.int .i64 a) ∧ w'.cell? ⟨w.heap.size, 1, none⟩ = some (.int .i64 b) ∧ w'.cell? ⟨w.heap.size, 2, none⟩ = some (.int .i64 e) ∧ Hid (Below w2.heap.size w2 w')) wX := fun wX hX => by
        obtain ⟨z0, z1, z2⟩ := hrow.out wX (below_trans' hb2 hX)
        exact ⟨z0, z1, z2, Lib.hid hX⟩
      have hS := Lib.hid hS
      have hS0 := Lib.hid (hS.out _ (Below.drew (Below.refl _ _)))
      clear y0 y1 y2
      obtain ⟨y0, y1, y2⟩ := hrow.out w2 hb2
      clear hb2
      go_wp2_with (first | (go_at_call 31; ((with_reducible refine (l1In_any x 0 (n - 1) _).mono ?_); rintro e0 w' ⟨rfl, rfl⟩; rw [HX.out])) | fail)
      go_region_held3 (fun w' => w'.cell? ⟨w.heap.size, 0, none⟩ = some (.int .i64 a) ∧ w'.cell? ⟨w.heap.size, 1, none⟩ = some (.int .i64 b) ∧ w'.cell? ⟨w.heap.size, 2, none⟩ = some (.int .i64 e) ∧ Hid (Below w2.heap.size w2 w'))
        (first | exact hS0.out | exact hS3.out)
        (first
          | (go_at_call 34; ((refine (kyS_rnd a b e _ ho.out ht.out).mono ?_); rintro e0 w3 ⟨rfl, hb3⟩; rw [HRR.out]; go_split_ands; have hS3 := Lib.hid (hS.out w3 (below_trans' (Hid.out (by assumption)) hb3))))
          | (go_at_call 33; ((refine (mdS_inv u r _).mono ?_); rintro e0 w' ⟨rfl, rfl⟩; rw [HD.out]))
          | (go_at_call 38; ((refine (mdS_pow x d n _).mono ?_); rintro e0 w' ⟨rfl, rfl⟩; rw [HZ.out])))
      all_goals
        go_split_ands
        rename Hid (Below w2.heap.size w2 _) => hE
        go_wp2
        go_ret
        exact ⟨by rw [HR2.out]; rfl, below_trans' hB2.out hE.out⟩
theorem kyS_open (n e x : Int) (w : World) :
    Calls Try.prog 23 #[.int .i64 n, .int .i64 e, .int .i64 x] w fun e' w' => e' = .returned (.int .i64 (opN n e x)) ∧ w = w' := by
  rcases h1 : inB e 3 1000 with _ | _
  · have HR := Lib.hid (opN_out (n := n) (x := x) (inB_isnt h1))
    have H1 := Lib.hid h1
    clear h1
    go_enter Try.func23, Try.ntmps23
    go_wp2_with (go_at_call 31; ((with_reducible refine (l1In_any e 3 1000 _).mono ?_); rintro e0 w' ⟨rfl, rfl⟩; rw [H1.out]))
    go_ret
    exact ⟨by rw [HR.out]; rfl, rfl⟩
  · have HR := Lib.hid (opN_in (n := n) (x := x) (inB_got h1))
    have H1 := Lib.hid h1
    clear h1
    go_enter Try.func23, Try.ntmps23
    go_wp2_with (first | (go_at_call 31; ((with_reducible refine (l1In_any e 3 1000 _).mono ?_); rintro e0 w' ⟨rfl, rfl⟩; rw [H1.out])) | (go_at_call 38; ((with_reducible refine (mdS_pow x e n _).mono ?_); rintro e0 w' ⟨rfl, rfl⟩)))
    go_ret
    exact ⟨by rw [HR.out]; rfl, rfl⟩
/-- a signature and whether -/
def GotSg (P : Sg × Bool) (w : World) (e : Ending) (w' : World) : Prop := e = .returned (.tuple #[aggSg P.1, .bool P.2]) ∧ Below w.heap.size w w'
theorem frzG {w w1 wX : World} {cs : Array Value} {T : TypeId} (hw : w.alloc (.cells cs T) = w1) (hB : Below w1.heap.size w1 wX) : ∀ j, wX.frozen? ⟨w.heap.size, j, none⟩ = false := fun j => by
  subst hw
  have hX := (hB.block w.heap.size (by simp)).trans (heap_alloc_new w (.cells cs T))
  simp [World.frozen?, hX]
theorem fitSg_text {i : Sg} (h : FitSg i) : i.text.size ≤ maxLen := fit_max h
/-- what the operations of the region yield -/
def QSgBa (b0 b1 : Nat) (t : ByteArray) (m u g a b e n : Int) (j : Nat) (v : Value) : Prop :=
  match j with
  | 0 => v = .agg #[.string t, .int .i64 m, .int .i64 u, .int .i64 g]
  | 1 => v = .bool false
  | 2 => v = .bool false
  | 3 => v = undef
  | 4 => v = undef
  | 5 => v = undef
  | 6 => v = undef
  | 7 => v = undef
  | 8 => v = .bool false
  | 9 => v = .bool false
  | 10 => v = undef
  | 11 => v = undef
  | 12 => v = undef
  | 13 => v = undef
  | 14 => v = undef
  | 15 => v = .bool false
  | 16 => v = .bool false
  | _ => False
/-- what the operations of the region yield -/
def QSgBb (b0 b1 : Nat) (t : ByteArray) (m u g a b e n : Int) (j : Nat) (v : Value) : Prop :=
  match j with
  | 0 => v = .agg #[.string t, .int .i64 m, .int .i64 u, .int .i64 g]
  | 1 => v = .bool true
  | 2 => v = .bool true
  | 3 => v = .agg #[.int .i64 a, .int .i64 b, .int .i64 e]
  | 4 => v = .int .i64 n
  | 5 => v = .pointer (some ⟨b0, 1, none⟩)
  | 6 => v = .int .i64 m
  | 7 => v = .bool false
  | 8 => v = .bool false
  | 9 => v = .bool false
  | 10 => v = undef
  | 11 => v = undef
  | 12 => v = undef
  | 13 => v = undef
  | 14 => v = undef
  | 15 => v = .bool false
  | 16 => v = .bool false
  | _ => False
/-- what the operations of the region yield -/
def QSgBc (b0 b1 : Nat) (t : ByteArray) (m u g a b e n : Int) (j : Nat) (v : Value) : Prop :=
  match j with
  | 0 => v = .agg #[.string t, .int .i64 m, .int .i64 u, .int .i64 g]
  | 1 => v = .bool true
  | 2 => v = .bool true
  | 3 => v = .agg #[.int .i64 a, .int .i64 b, .int .i64 e]
  | 4 => v = .int .i64 n
  | 5 => v = .pointer (some ⟨b0, 1, none⟩)
  | 6 => v = .int .i64 m
  | 7 => v = .bool true
  | 8 => v = .bool true
  | 9 => v = .bool true
  | 10 => v = .pointer (some ⟨b1, 2, none⟩)
  | 11 => v = .int .i64 e
  | 12 => v = .pointer (some ⟨b0, 2, none⟩)
  | 13 => v = .int .i64 u
  | 14 => v = .bool false
  | 15 => v = .bool false
  | 16 => v = .bool false
  | _ => False
/-- what the operations of the region yield -/
def QSgBd (b0 b1 : Nat) (t : ByteArray) (m u g a b e n : Int) (j : Nat) (v : Value) : Prop :=
  match j with
  | 0 => v = .agg #[.string t, .int .i64 m, .int .i64 u, .int .i64 g]
  | 1 => v = .bool true
  | 2 => v = .bool true
  | 3 => v = .agg #[.int .i64 a, .int .i64 b, .int .i64 e]
  | 4 => v = .int .i64 n
  | 5 => v = .pointer (some ⟨b0, 1, none⟩)
  | 6 => v = .int .i64 m
  | 7 => v = .bool true
  | 8 => v = .bool true
  | 9 => v = .bool true
  | 10 => v = .pointer (some ⟨b1, 2, none⟩)
  | 11 => v = .int .i64 e
  | 12 => v = .pointer (some ⟨b0, 2, none⟩)
  | 13 => v = .int .i64 u
  | 14 => v = .bool true
  | 15 => v = .bool true
  | 16 => v = .bool true
  | _ => False
end Go.Proofs.Ythjjagfghbljpaa
