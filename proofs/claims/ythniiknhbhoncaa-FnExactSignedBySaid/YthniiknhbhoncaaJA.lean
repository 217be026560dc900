/-
  The verifier's own text: ModMath RsaMath KyMath DgMath SgMath TnMath.
-/
import Derived.Test.YthniiknhbhoncaaGa
import Derived.WalkKit
import Derived.Lib.Hide
namespace Go.Proofs.Ythniiknhbhoncaa
open Go.RowKit
set_option linter.unusedVariables false
/-! Numbers modulo m. -/
def MulIn (a b m : Int) : Prop := (1 ≤ m ∧ m ≤ 1000000) ∧ (0 ≤ a ∧ a ≤ m - 1) ∧ (0 ≤ b ∧ b ≤ m - 1)
instance (a b m : Int) : Decidable (MulIn a b m) := by unfold MulIn; infer_instance
def mulM (a b m : Int) : Int := if MulIn a b m then a * b % m else -1
theorem mulM_in {a b m : Int} (h : MulIn a b m) : mulM a b m = a * b % m := by unfold mulM; rw [if_pos h]
theorem mulM_out {a b m : Int} (h : ¬ MulIn a b m) : mulM a b m = -1 := by unfold mulM; rw [if_neg h]
theorem mod_lo {x m : Int} (h : 1 ≤ m) : 0 ≤ x % m ∧ x % m ≤ m - 1 := ⟨Int.emod_nonneg _ (by omega), by have := Int.emod_lt_of_pos x (b := m) (by omega); omega⟩
theorem mod_rng0 {x y : Int} (h1 : 0 < y) : 0 ≤ x % y ∧ x % y ≤ y - 1 := ⟨Int.emod_nonneg _ (by omega), by have := Int.emod_lt_of_pos x (b := y) h1; omega⟩
theorem mod_self' {x m : Int} (h0 : 0 ≤ x) (h1 : x ≤ m - 1) : x % m = x := Int.emod_eq_of_lt h0 (by omega)
theorem mulM_lo {a b m : Int} (h : 0 ≤ mulM a b m) : MulIn a b m ∧ mulM a b m < m := by
  by_cases q : MulIn a b m
  · refine ⟨q, ?_⟩; rw [mulM_in q]; have := (mod_lo (x := a * b) q.1.1).2; omega
  · rw [mulM_out q] at h; omega
theorem mulM_neg {a b m : Int} (h : mulM a b m < 0) : mulM a b m = -1 := by
  by_cases q : MulIn a b m
  · rw [mulM_in q] at h; have := (mod_lo (x := a * b) q.1.1).1; omega
  · exact mulM_out q
theorem mulM_comm (a b m : Int) : mulM b a m = mulM a b m := by
  by_cases q : MulIn a b m
  · rw [mulM_in q, mulM_in ⟨q.1, q.2.2, q.2.1⟩, Int.mul_comm]
  · rw [mulM_out q, mulM_out (fun h => q ⟨h.1, h.2.2, h.2.1⟩)]
theorem mulM_one {a m : Int} (h0 : 0 ≤ a) (h1 : a ≤ m - 1) (h2 : m ≤ 1000000) (h3 : m ≠ 1) : mulM a 1 m = a := by
  rw [mulM_in ⟨⟨by omega, h2⟩, ⟨h0, h1⟩, ⟨by omega, by omega⟩⟩, Int.mul_one, mod_self' h0 h1]
/-- powers -/
def PowIn (a e m : Int) : Prop := (1 ≤ m ∧ m ≤ 1000000) ∧ (0 ≤ a ∧ a ≤ m - 1) ∧ (0 ≤ e ∧ e ≤ 1000000000)
instance (a e m : Int) : Decidable (PowIn a e m) := by unfold PowIn; infer_instance
def powM (a e m : Int) : Int := if PowIn a e m then a ^ e.toNat % m else -1
theorem powM_in {a e m : Int} (h : PowIn a e m) : powM a e m = a ^ e.toNat % m := by unfold powM; rw [if_pos h]
theorem powM_out {a e m : Int} (h : ¬ PowIn a e m) : powM a e m = -1 := by unfold powM; rw [if_neg h]
theorem powM_lo {a e m : Int} (h : 0 ≤ powM a e m) : PowIn a e m ∧ powM a e m < m := by
  by_cases q : PowIn a e m
  · refine ⟨q, ?_⟩; rw [powM_in q]; have := (mod_lo (x := a ^ e.toNat) q.1.1).2; omega
  · rw [powM_out q] at h; omega
theorem powM_neg {a e m : Int} (h : powM a e m < 0) : powM a e m = -1 := by
  by_cases q : PowIn a e m
  · rw [powM_in q] at h; have := (mod_lo (x := a ^ e.toNat) q.1.1).1; omega
  · exact powM_out q
theorem powM_one {a e m : Int} (h : PowIn a e m) : powM a 1 m = a := by
  rw [powM_in ⟨h.1, h.2.1, by omega, by omega⟩]
  show a ^ 1 % m = a
  rw [Int.pow_succ, Int.pow_zero, Int.one_mul, mod_self' h.2.1.1 h.2.1.2]
theorem pow_split (a m : Int) (x y : Nat) : (a ^ x % m) * (a ^ y % m) % m = a ^ (x + y) % m := by
  rw [← Int.mul_emod, ← Int.pow_add]
/-- the power of a sum is the product -/
theorem powM_split {a e m : Int} (h : PowIn a e m) : mulM (powM a (e / 2) m) (powM a (e - e / 2) m) m = powM a e m := by
  have h1 : PowIn a (e / 2) m := ⟨h.1, h.2.1, by have := h.2.2; omega⟩
  have h2 : PowIn a (e - e / 2) m := ⟨h.1, h.2.1, by have := h.2.2; omega⟩
  rw [powM_in h1, powM_in h2, mulM_in ⟨h.1, mod_lo h.1.1, mod_lo h.1.1⟩, powM_in h, pow_split]
  have : (e / 2).toNat + (e - e / 2).toNat = e.toNat := by have := h.2.2; omega
  rw [this]
theorem pow_mod (x m : Int) (k : Nat) : (x % m) ^ k % m = x ^ k % m := by
  induction k with
  | zero => rw [Int.pow_zero, Int.pow_zero]
  | succ k ih =>
    rw [Int.pow_succ, Int.mul_emod, ih, Int.emod_emod, ← Int.mul_emod, ← Int.pow_succ]
theorem mul_mod_l (x y m : Int) : x % m * y % m = x * y % m := by rw [Int.mul_emod, Int.emod_emod, ← Int.mul_emod]
theorem mul_mod_r (x y m : Int) : x * (y % m) % m = x * y % m := by rw [Int.mul_emod, Int.emod_emod, ← Int.mul_emod]
theorem sq_pow (a : Int) (k : Nat) : (a * a) ^ k = a ^ (2 * k) := by
  rw [Int.pow_mul]; congr 1
  rw [Int.pow_succ, Int.pow_succ, Int.pow_zero, Int.one_mul]
/-- one round of the powers -/
theorem pow_odd {n a m : Int} {e : Nat} (h : e % 2 = 1) : (n * a % m) * (a * a % m) ^ (e / 2) % m = n * a ^ e % m := by
  have e1 : e = 1 + 2 * (e / 2) := by omega
  rw [mul_mod_l, ← mul_mod_r, pow_mod, mul_mod_r, sq_pow]
  conv => rhs; rw [e1, Int.pow_add]
  rw [show a ^ 1 = a by rw [Int.pow_succ, Int.pow_zero, Int.one_mul], Int.mul_assoc]
theorem pow_even {n a m : Int} {e : Nat} (h : e % 2 = 0) : n * (a * a % m) ^ (e / 2) % m = n * a ^ e % m := by
  have e1 : e = 2 * (e / 2) := by omega
  rw [← mul_mod_r, pow_mod, mul_mod_r, sq_pow, ← e1]
/-- inverses -/
def InvOk (a m x : Int) : Prop := (0 ≤ x ∧ x ≤ m - 1) ∧ a * x % m = 1
def InvIn (a m : Int) : Prop := (2 ≤ m ∧ m ≤ 1000000) ∧ (0 ≤ a ∧ a ≤ m - 1)
instance (a m : Int) : Decidable (InvIn a m) := by unfold InvIn; infer_instance
open Classical in
noncomputable def invM (a m : Int) : Int := if h : InvIn a m ∧ ∃ x, InvOk a m x then Classical.choose h.2 else -1
theorem inv_uniq {a m x y : Int} (h1 : InvOk a m x) (h2 : InvOk a m y) : x = y := by
  obtain ⟨⟨x0, x1⟩, hx⟩ := h1
  obtain ⟨⟨y0, y1⟩, hy⟩ := h2
  have e1 : (a * x) * y % m = y := by rw [← mul_mod_l, hx, Int.one_mul, mod_self' y0 y1]
  have e2 : (a * y) * x % m = x := by rw [← mul_mod_l, hy, Int.one_mul, mod_self' x0 x1]
  rw [← e1, ← e2]; congr 1; grind
theorem invM_of {a m x : Int} (h : InvIn a m) (h1 : InvOk a m x) : invM a m = x := by
  have q : InvIn a m ∧ ∃ x, InvOk a m x := ⟨h, x, h1⟩
  unfold invM; rw [dif_pos q]
  exact inv_uniq (Classical.choose_spec q.2) h1
theorem invM_no {a m : Int} (h : InvIn a m → ∀ x, ¬ InvOk a m x) : invM a m = -1 := by
  unfold invM; rw [dif_neg]
  rintro ⟨q, x, k⟩; exact h q x k
theorem invM_got {a m : Int} (h : 0 ≤ invM a m) : InvIn a m ∧ InvOk a m (invM a m) := by
  unfold invM at h ⊢
  split at h
  · rename_i q
    rw [dif_pos q]
    exact ⟨q.1, Classical.choose_spec q.2⟩
  · omega
theorem invM_neg {a m : Int} (h : invM a m < 0) : invM a m = -1 := by
  by_cases q : InvIn a m ∧ ∃ x, InvOk a m x
  · obtain ⟨q1, x, hx⟩ := q
    rw [invM_of q1 hx] at h ⊢
    have := hx.1.1; omega
  · exact invM_no (fun a x k => q ⟨a, x, k⟩)
theorem invM_lt {a m : Int} (h : InvIn a m) : invM a m < m := by
  by_cases q : 0 ≤ invM a m
  · have := (invM_got q).2.1.2; omega
  · have := h.1; omega
theorem invM_swap {a m : Int} (h : 0 ≤ invM a m) : invM (invM a m) m = a := by
  obtain ⟨h1, h2⟩ := invM_got h
  exact invM_of ⟨h1.1, h2.1⟩ ⟨h1.2, by rw [Int.mul_comm]; exact h2.2⟩
theorem invM_mul {a m : Int} (h : 0 ≤ invM a m) : mulM a (invM a m) m = 1 := by
  obtain ⟨h1, h2⟩ := invM_got h
  rw [mulM_in ⟨⟨by have := h1.1; omega, h1.1.2⟩, h1.2, h2.1⟩]; exact h2.2
/-- what holds in the rounds of the algorithm -/
structure Eu (a m x y p q : Int) : Prop where
  p0 : 0 ≤ p
  pm : p ≤ m
  q0 : 0 ≤ q
  qm : q ≤ m
  dv : ∀ d : Int, (d ∣ p ∧ d ∣ q) → d ∣ a ∧ d ∣ m
  cx : m ∣ x * a - p
  cy : m ∣ y * a - q
  bd : ∃ X Y : Int, 0 ≤ X ∧ X ≤ m ∧ 0 ≤ Y ∧ Y ≤ m ∧ X * q + Y * p = m ∧ ((x = X ∧ y = -Y) ∨ (x = -X ∧ y = Y))
theorem Eu.start {a m : Int} (h : InvIn a m) : Eu a m 1 0 a m := by
  obtain ⟨⟨m0, m1⟩, a0, a1⟩ := h
  refine ⟨a0, by omega, by omega, by omega, fun d q => q, ⟨0, by omega⟩, ⟨-1, by omega⟩, 1, 0, by omega, by omega, by omega, by omega, by omega, .inl ⟨rfl, rfl⟩⟩
theorem Eu.lo {a m x y p q : Int} (h : Eu a m x y p q) : -m ≤ x ∧ x ≤ m ∧ -m ≤ y ∧ y ≤ m := by
  obtain ⟨X, Y, h1, h2, h3, h4, _, h6⟩ := h.bd
  rcases h6 with ⟨rfl, rfl⟩ | ⟨rfl, rfl⟩ <;> omega
theorem Eu.quo {a m x y p q : Int} (h : Eu a m x y p q) (hq : q ≠ 0) : 0 ≤ p / q ∧ p / q ≤ p ∧ p / q * q ≤ p ∧ 0 ≤ p / q * q ∧ p - p / q * q = p % q := by
  have h1 := h.p0
  have h2 := h.q0
  have e : p / q * q + p % q = p := Int.ediv_mul_add_emod p q
  have r0 := Int.emod_nonneg p hq
  have k0 : 0 ≤ p / q := Int.ediv_nonneg h1 h2
  refine ⟨k0, Int.ediv_le_self _ h1, by omega, Int.mul_nonneg k0 h2, by omega⟩
theorem Eu.step {a m x y p q : Int} (h : Eu a m x y p q) (hq : q ≠ 0) : Eu a m y (x - p / q * y) q (p - p / q * q) := by
  obtain ⟨k0, k1, k2, k3, hr⟩ := h.quo hq
  have h2 := h.q0
  have r0 := Int.emod_nonneg p hq
  have r1 := Int.emod_lt_of_pos p (b := q) (by omega)
  obtain ⟨k, hk⟩ : ∃ k, p / q = k := ⟨_, rfl⟩
  rw [hk] at k0 k1 k2 k3 hr ⊢
  obtain ⟨p0, pm, q0, qm, dv, ⟨c1, e1⟩, ⟨c2, e2⟩, X, Y, b1, b2, b3, b4, b5, b6⟩ := h
  refine ⟨q0, qm, by omega, by omega, ?_, ⟨c2, e2⟩, ⟨c1 - k * c2, by grind⟩, Y, X + k * Y, b3, b4, ?_, ?_, by grind, ?_⟩
  · rintro d ⟨u, v⟩
    refine dv d ⟨?_, u⟩
    have : p = (p - k * q) + k * q := by omega
    rw [this]
    exact Int.dvd_add v (Int.dvd_mul_of_dvd_right u)
  · have := Int.mul_nonneg k0 b3; omega
  · have h5 : (X + k * Y) * q + Y * (p - k * q) = m := by grind
    have h6 : 0 ≤ Y * (p - k * q) := Int.mul_nonneg b3 (by omega)
    have h7 : 0 ≤ X + k * Y := by have := Int.mul_nonneg k0 b3; omega
    have h8 : X + k * Y ≤ (X + k * Y) * q := by
      have := Int.mul_le_mul_of_nonneg_left (show 1 ≤ q by omega) h7
      rwa [Int.mul_one] at this
    omega
  · rcases b6 with ⟨rfl, rfl⟩ | ⟨rfl, rfl⟩
    · exact .inr ⟨rfl, by grind⟩
    · exact .inl ⟨rfl, by grind⟩
/-- at the end -/
theorem Eu.no {a m x y p : Int} (h : Eu a m x y p 0) (hm : 2 ≤ m) (hp : p ≠ 1) : ∀ z, ¬ InvOk a m z := by
  rintro z ⟨_, hz⟩
  obtain ⟨⟨c, ha⟩, ⟨d, hd⟩⟩ := h.dv p ⟨Int.dvd_refl p, Int.dvd_zero p⟩
  have hp0 := h.p0
  have hp1 : p ≠ 0 := by intro e; rw [e] at hd; omega
  have e : a * z / m * m + a * z % m = a * z := Int.ediv_mul_add_emod _ _
  rw [hz] at e
  have : p ∣ 1 := ⟨c * z - a * z / m * d, by grind⟩
  have := Int.le_of_dvd (by omega) this
  omega
theorem Eu.yes {a m x y : Int} (h : Eu a m x y 1 0) (hm : 2 ≤ m) : InvOk a m (x % m) := by
  obtain ⟨c, hc⟩ := h.cx
  refine ⟨mod_lo (by omega), ?_⟩
  rw [mul_mod_r]
  have : a * x = 1 + m * c := by grind
  rw [this, Int.add_mul_emod_self_left]
  exact mod_self' (by omega) (by omega)
/-- x % m as the code has it -/
theorem eu_mod {x m : Int} (hm : 2 ≤ m) : (x.tmod m + m).tmod m = x % m := by
  have h1 : -m < x.tmod m ∧ x.tmod m < m := by
    have a := Int.tmod_lt_of_pos x (b := m) (by omega)
    have b := Int.lt_tmod_of_pos x (b := m) (by omega)
    exact ⟨by omega, a⟩
  rw [Int.tmod_eq_emod_of_nonneg (by omega)]
  have e : m * x.tdiv m + x.tmod m = x := Int.mul_tdiv_add_tmod x m
  have : x % m = (x.tmod m + m * x.tdiv m) % m := by congr 1; omega
  rw [this, Int.add_mul_emod_self_left, Int.add_emod_right]
/-- it comes to an end -/
theorem Eu.fin {a m : Int} : ∀ (N : Nat) {x y p q : Int}, q.toNat ≤ N → Eu a m x y p q → ∃ x y p, Eu a m x y p 0 := by
  intro N
  induction N with
  | zero => intro x y p q hN h; have := h.q0; obtain rfl : q = 0 := by omega
            exact ⟨x, y, p, h⟩
  | succ N ih =>
    intro x y p q hN h
    by_cases hq : q = 0
    · subst hq; exact ⟨x, y, p, h⟩
    · obtain ⟨_, _, _, _, hr⟩ := h.quo hq
      have h0 := h.q0
      have r0 := Int.emod_nonneg p hq
      have r1 := Int.emod_lt_of_pos p (b := q) (by omega)
      exact ih (by omega) (h.step hq)
/-- primes -/
def primB (n : Int) : Bool := decide (2 ≤ n ∧ n ≤ 1000) && (List.range n.toNat).all fun k => decide (k < 2) || decide (n % (k : Int) ≠ 0)
theorem primB_in {n : Int} (h : primB n = true) : 2 ≤ n ∧ n ≤ 1000 := by
  unfold primB at h; simp only [Bool.and_eq_true, decide_eq_true_eq] at h; exact h.1
theorem primB_div {n d : Int} (h : primB n = true) (h1 : 0 ≤ d) (hd : d ∣ n) : d = 1 ∨ d = n := by
  have hn := primB_in h
  unfold primB at h
  simp only [Bool.and_eq_true, List.all_eq_true, List.mem_range, Bool.or_eq_true, decide_eq_true_eq] at h
  have hle := Int.le_of_dvd (by omega) hd
  have hd0 : d ≠ 0 := by rintro rfl; obtain ⟨c, e⟩ := hd; omega
  by_cases h2 : d < 2
  · exact .inl (by omega)
  · by_cases h3 : d = n
    · exact .inr h3
    · rcases h.2 d.toNat (by omega) with q | q
      · omega
      · exfalso; apply q
        rw [show ((d.toNat : Nat) : Int) = d by omega]
        exact Int.emod_eq_zero_of_dvd hd
theorem primB_mk {n : Int} (h : 2 ≤ n ∧ n ≤ 1000) (k : ∀ d : Int, 2 ≤ d → d < n → n % d ≠ 0) : primB n = true := by
  unfold primB
  simp only [Bool.and_eq_true, List.all_eq_true, List.mem_range, Bool.or_eq_true, decide_eq_true_eq]
  refine ⟨h, fun x hx => ?_⟩
  by_cases q : x < 2
  · exact .inl q
  · exact .inr (k x (by omega) (by omega))
theorem primB_not {n d : Int} (h1 : 2 ≤ d) (h2 : d < n) (h3 : n % d = 0) : primB n = false := by
  rcases q : primB n with _ | _
  · rfl
  · rcases primB_div q (by omega) (Int.dvd_of_emod_eq_zero h3) with e | e <;> omega
theorem primB_out {n : Int} (h : ¬ (2 ≤ n ∧ n ≤ 1000)) : primB n = false := by
  rcases q : primB n with _ | _
  · rfl
  · exact absurd (primB_in q) h
/-- no divisor whose square is not greater: none -/
theorem primB_root {n k : Int} (h : 2 ≤ n ∧ n ≤ 1000) (hk : 2 ≤ k) (hs : n < k * k) (hd : ∀ d : Int, 2 ≤ d → d < k → n % d ≠ 0) : primB n = true := by
  refine primB_mk h fun d d2 dn e => ?_
  by_cases q : d < k
  · exact hd d d2 q e
  · obtain ⟨c, hc⟩ := Int.dvd_of_emod_eq_zero e
    have c0 : 2 ≤ c := by
      rcases Int.lt_or_le c 2 with r | r
      · exfalso
        rcases Int.lt_or_le c 1 with r2 | r2
        · have := Int.mul_le_mul_of_nonneg_left (show c ≤ 0 by omega) (show 0 ≤ d by omega)
          rw [Int.mul_zero] at this; omega
        · obtain rfl : c = 1 := by omega
          omega
      · exact r
    have ck : c < k := by
      rcases Int.lt_or_le c k with r | r
      · exact r
      · exfalso
        have e1 : k * k ≤ d * k := Int.mul_le_mul_of_nonneg_right (by omega) (by omega)
        have e2 : d * k ≤ d * c := Int.mul_le_mul_of_nonneg_left r (by omega)
        omega
    exact hd c c0 ck (Int.emod_eq_zero_of_dvd ⟨d, by rw [hc, Int.mul_comm]⟩)
/-- below a prime there are inverses -/
theorem prime_inv {a n : Int} (h : primB n = true) (h1 : 1 ≤ a) (h2 : a < n) : 0 ≤ invM a n := by
  have hn := primB_in h
  have hin : InvIn a n := ⟨by omega, by omega, by omega⟩
  obtain ⟨x, y, p, hE⟩ := Eu.fin n.toNat (Nat.le_refl _) (Eu.start hin)
  obtain ⟨da, dn⟩ := hE.dv p ⟨Int.dvd_refl p, Int.dvd_zero p⟩
  have hp := Int.le_of_dvd (by omega) da
  rcases primB_div h hE.p0 dn with e | e
  · rw [e] at hE
    rw [invM_of hin (hE.yes hn.1)]
    exact (mod_lo (by omega)).1
  · omega
/-! Powers modulo primes and products of two primes. -/
/-- x to the power p, for all x below -/
def fermB (p : Nat) : Nat → Bool
  | 0 => true
  | x + 1 => Nat.beq (x ^ p % p) x && fermB p x
/-- a divisor from 2 up to k + 1, it excluded, below p -/
def divB (p : Nat) : Nat → Bool
  | 0 => false
  | k + 1 => (Nat.blt 1 k && Nat.blt k p && Nat.beq (p % k) 0) || divB p k
def allP : Nat → Bool
  | 0 => true
  | p + 1 => (Nat.blt p 2 || divB p 33 || fermB p p) && allP p
theorem blt_lt {a b : Nat} (h : Nat.blt a b = true) : a < b := Nat.le_of_ble_eq_true h
theorem allP_true : allP 1001 = true := by decide +kernel
theorem allP_get : ∀ {N p : Nat}, allP N = true → p < N → (Nat.blt p 2 || divB p 33 || fermB p p) = true := by
  intro N
  induction N with
  | zero => intro p _ h; omega
  | succ N ih =>
    intro p h hp
    unfold allP at h
    rw [Bool.and_eq_true] at h
    by_cases e : p = N
    · subst e; exact h.1
    · exact ih h.2 (by omega)
theorem fermB_get {p : Nat} : ∀ {N x : Nat}, fermB p N = true → x < N → x ^ p % p = x := by
  intro N
  induction N with
  | zero => intro x _ h; omega
  | succ N ih =>
    intro x h hx
    unfold fermB at h
    rw [Bool.and_eq_true] at h
    by_cases e : x = N
    · subst e; exact Nat.eq_of_beq_eq_true h.1
    · exact ih h.2 (by omega)
theorem divB_get {p : Nat} : ∀ {N : Nat}, divB p N = true → ∃ k, 2 ≤ k ∧ k < p ∧ p % k = 0 := by
  intro N
  induction N with
  | zero => intro h; cases h
  | succ N ih =>
    intro h
    unfold divB at h
    rw [Bool.or_eq_true] at h
    rcases h with h | h
    · rw [Bool.and_eq_true, Bool.and_eq_true] at h
      exact ⟨N, blt_lt h.1.1, blt_lt h.1.2, Nat.eq_of_beq_eq_true h.2⟩
    · exact ih h
theorem ferm {p : Nat} (h : primB (p : Int) = true) (x : Nat) : x ^ p % p = x % p := by
  have hp := primB_in h
  have hx : x % p < p := Nat.mod_lt _ (by omega)
  have q := allP_get allP_true (p := p) (by omega)
  simp only [Bool.or_eq_true] at q
  rcases q with (q | q) | q
  · have := blt_lt q; omega
  · obtain ⟨k, k1, k2, k3⟩ := divB_get q
    have := primB_not (n := (p : Int)) (d := (k : Int)) (by omega) (by omega) (by omega)
    rw [h] at this; cases this
  · have := fermB_get q hx
    rw [← Nat.pow_mod] at this; exact this
theorem ferm_more {p : Nat} (h : primB (p : Int) = true) (x : Nat) : ∀ s : Nat, x ^ (1 + s * (p - 1)) % p = x % p := by
  have hp := primB_in h
  intro s
  induction s with
  | zero => simp
  | succ s ih =>
    have e : 1 + (s + 1) * (p - 1) = (1 + s * (p - 1)) + (p - 1) := by rw [Nat.add_mul]; omega
    rw [e, Nat.pow_add, Nat.mul_mod, ih, ← Nat.mul_mod]
    have e2 : x * x ^ (p - 1) = x ^ p := by
      conv => rhs; rw [show p = (p - 1) + 1 by omega, Nat.pow_succ]
      rw [Nat.mul_comm]
    rw [e2]; exact ferm h x
theorem dvd_mod {a b m : Nat} (h : a % m = b % m) : m ∣ a - b := Nat.dvd_of_mod_eq_zero (Nat.sub_mod_eq_zero_of_mod_eq h)
theorem prime_cop {p q : Nat} (h1 : primB (p : Int) = true) (h2 : primB (q : Int) = true) (hn : p ≠ q) : Nat.Coprime p q := by
  have a1 := primB_in h1
  have a2 := primB_in h2
  have d1 : Nat.gcd p q ∣ p := Nat.gcd_dvd_left _ _
  have d2 : Nat.gcd p q ∣ q := Nat.gcd_dvd_right _ _
  rcases primB_div h1 (d := (Nat.gcd p q : Nat)) (by omega) (Int.ofNat_dvd.2 d1) with e | e
  · unfold Nat.Coprime; omega
  · rcases primB_div h2 (d := (Nat.gcd p q : Nat)) (by omega) (Int.ofNat_dvd.2 d2) with f | f <;> omega
/-- what was signed is opened -/
theorem rsa {p q : Nat} (h1 : primB (p : Int) = true) (h2 : primB (q : Int) = true) (hn : p ≠ q) (x t : Nat) : x ^ (1 + t * ((p - 1) * (q - 1))) % (p * q) = x % (p * q) := by
  have e1 : x ^ (1 + t * ((p - 1) * (q - 1))) % p = x % p := by
    rw [show t * ((p - 1) * (q - 1)) = (t * (q - 1)) * (p - 1) by rw [Nat.mul_comm (p - 1), Nat.mul_assoc]]
    exact ferm_more h1 x _
  have e2 : x ^ (1 + t * ((p - 1) * (q - 1))) % q = x % q := by
    rw [show t * ((p - 1) * (q - 1)) = (t * (p - 1)) * (q - 1) by rw [Nat.mul_assoc]]
    exact ferm_more h2 x _
  obtain ⟨y, hy⟩ : ∃ y, x ^ (1 + t * ((p - 1) * (q - 1))) = y := ⟨_, rfl⟩
  rw [hy] at e1 e2 ⊢
  have c := prime_cop h1 h2 hn
  rcases Nat.le_total x y with hl | hl
  · have d1 : p ∣ y - x := dvd_mod e1
    have d2 : q ∣ y - x := dvd_mod e2
    obtain ⟨z, hz⟩ := Nat.Coprime.mul_dvd_of_dvd_of_dvd c d1 d2
    have : y = x + p * q * z := by omega
    rw [this, Nat.add_mul_mod_self_left]
  · have d1 : p ∣ x - y := dvd_mod e1.symm
    have d2 : q ∣ x - y := dvd_mod e2.symm
    obtain ⟨z, hz⟩ := Nat.Coprime.mul_dvd_of_dvd_of_dvd c d1 d2
    have : x = y + p * q * z := by omega
    rw [this, Nat.add_mul_mod_self_left]
/-! Keys. -/
structure Ky where
  one : Int
  two : Int
  exp : Int
instance kyDec : DecidableEq Ky := fun a b => if h : a.one = b.one ∧ a.two = b.two ∧ a.exp = b.exp then isTrue (by obtain ⟨a0, a1, a2⟩ := a; obtain ⟨b0, b1, b2⟩ := b; obtain ⟨h0, h1, h2⟩ := h; simp only at h0 h1 h2; subst h0; subst h1; subst h2; rfl) else isFalse (by rintro rfl; exact h ⟨rfl, rfl, rfl⟩)
def Ky.zero : Ky := ⟨0, 0, 0⟩
def rnd (k : Ky) : Int := (k.one - 1) * (k.two - 1)
def PrIn (n : Int) : Prop := 11 ≤ n ∧ n ≤ 997
instance (n : Int) : Decidable (PrIn n) := by unfold PrIn; infer_instance
structure KyOk (k : Ky) : Prop where
  o : PrIn k.one
  t : PrIn k.two
  po : primB k.one = true
  pt : primB k.two = true
  ne : k.one ≠ k.two
  e : 3 ≤ k.exp ∧ k.exp ≤ 1000
  i : 0 ≤ invM (k.exp % rnd k) (rnd k)
noncomputable instance kyOkDec (k : Ky) : Decidable (KyOk k) := Classical.propDecidable _
noncomputable def kyB (k : Ky) : Bool := decide (KyOk k)
theorem kyB_of {k : Ky} (h : kyB k = true) : KyOk k := by unfold kyB at h; exact of_decide_eq_true h
theorem kyB_mk {k : Ky} (h : KyOk k) : kyB k = true := by unfold kyB; exact decide_eq_true h
theorem kyB_no {k : Ky} (h : ¬ KyOk k) : kyB k = false := by unfold kyB; exact decide_eq_false h
theorem kyB_not {k : Ky} (h : kyB k = false) : ¬ KyOk k := fun q => by rw [kyB_mk q] at h; cases h
theorem prod_rng {a b : Int} (a0 : 0 ≤ a) (a1 : a ≤ 997) (b0 : 0 ≤ b) (b1 : b ≤ 997) : 0 ≤ a * b ∧ a * b ≤ 994009 :=
  ⟨Int.mul_nonneg a0 b0, Int.le_trans (Int.mul_le_mul_of_nonneg_right a1 b0) (by omega)⟩
theorem prod_lo {a b : Int} (a0 : 10 ≤ a) (b0 : 10 ≤ b) : 100 ≤ a * b := by
  have := Int.mul_le_mul_of_nonneg_right a0 (show 0 ≤ b by omega)
  omega
theorem KyOk.mod {k : Ky} (h : KyOk k) : 100 ≤ k.one * k.two ∧ k.one * k.two ≤ 994009 := by
  obtain ⟨⟨a, b⟩, ⟨c, d⟩, _⟩ := h
  exact ⟨prod_lo (by omega) (by omega), (prod_rng (by omega) (by omega) (by omega) (by omega)).2⟩
theorem rnd_rng {k : Ky} (h : PrIn k.one) (h' : PrIn k.two) : 100 ≤ rnd k ∧ rnd k ≤ 994009 := by
  obtain ⟨a, b⟩ := h
  obtain ⟨c, d⟩ := h'
  unfold rnd
  exact ⟨prod_lo (by omega) (by omega), (prod_rng (by omega) (by omega) (by omega) (by omega)).2⟩
theorem rnd_swap (a b e : Int) : rnd ⟨b, a, e⟩ = rnd ⟨a, b, e⟩ := by unfold rnd; exact Int.mul_comm _ _
theorem kyB_same (a e : Int) : kyB ⟨a, a, e⟩ = false := kyB_no (fun h => h.ne rfl)
theorem KyOk.swap {a b e : Int} (h : KyOk ⟨a, b, e⟩) : KyOk ⟨b, a, e⟩ := ⟨h.t, h.o, h.pt, h.po, Ne.symm h.ne, h.e, by rw [rnd_swap]; exact h.i⟩
theorem kyB_swap (a b e : Int) : kyB ⟨b, a, e⟩ = kyB ⟨a, b, e⟩ := by
  rcases q : kyB ⟨a, b, e⟩ with _ | _
  · exact kyB_no (fun h => kyB_not q h.swap)
  · exact kyB_mk (kyB_of q).swap
noncomputable def kyM (k : Ky) : Int := if kyB k = true then k.one * k.two else -1
theorem kyM_in {k : Ky} (h : kyB k = true) : kyM k = k.one * k.two := by unfold kyM; rw [if_pos h]
theorem kyM_out {k : Ky} (h : kyB k = false) : kyM k = -1 := by unfold kyM; rw [if_neg (by rw [h]; decide)]
theorem kyM_swap (a b e : Int) : kyM ⟨b, a, e⟩ = kyM ⟨a, b, e⟩ := by
  unfold kyM; rw [kyB_swap, Int.mul_comm]
theorem kyM_got {k : Ky} (h : 0 ≤ kyM k) : kyB k = true := by
  rcases q : kyB k with _ | _
  · rw [kyM_out q] at h; omega
  · rfl
theorem kyM_rng (k : Ky) : -1 ≤ kyM k ∧ kyM k ≤ 994009 := by
  rcases q : kyB k with _ | _
  · rw [kyM_out q]; omega
  · rw [kyM_in q]; have := (kyB_of q).mod; omega
theorem kyM_pos {k : Ky} (h : kyB k = true) : 100 ≤ kyM k := by rw [kyM_in h]; exact (kyB_of h).mod.1
/-- the inverse of the exponent -/
noncomputable def kyD (k : Ky) : Int := invM (k.exp % rnd k) (rnd k)
theorem kyD_rng {k : Ky} (h : KyOk k) : 0 ≤ kyD k ∧ kyD k ≤ 1000000 := by
  have := (invM_got h.i).2.1.2
  have := (rnd_rng h.o h.t).2
  exact ⟨h.i, by unfold kyD; omega⟩
def SgIn (n x : Int) : Prop := 0 ≤ n ∧ 0 ≤ x ∧ x ≤ n - 1
instance (n x : Int) : Decidable (SgIn n x) := by unfold SgIn; infer_instance
noncomputable def sgN (k : Ky) (x : Int) : Int := if SgIn (kyM k) x then powM x (kyD k) (kyM k) else -1
theorem sgN_in {k : Ky} {x : Int} (h : SgIn (kyM k) x) : sgN k x = powM x (kyD k) (kyM k) := by unfold sgN; rw [if_pos h]
theorem sgN_out {k : Ky} {x : Int} (h : ¬ SgIn (kyM k) x) : sgN k x = -1 := by unfold sgN; rw [if_neg h]
def opN (n e x : Int) : Int := if 3 ≤ e ∧ e ≤ 1000 then powM x e n else -1
theorem opN_in {n e x : Int} (h : 3 ≤ e ∧ e ≤ 1000) : opN n e x = powM x e n := by unfold opN; rw [if_pos h]
theorem opN_out {n e x : Int} (h : ¬ (3 ≤ e ∧ e ≤ 1000)) : opN n e x = -1 := by unfold opN; rw [if_neg h]
theorem opN_lo {n e x : Int} (h : 0 ≤ opN n e x) : (3 ≤ e ∧ e ≤ 1000) ∧ PowIn x e n ∧ opN n e x < n := by
  by_cases q : 3 ≤ e ∧ e ≤ 1000
  · rw [opN_in q] at h ⊢; exact ⟨q, powM_lo h⟩
  · rw [opN_out q] at h; omega
theorem opN_neg {n e x : Int} (h : opN n e x < 0) : opN n e x = -1 := by
  by_cases q : 3 ≤ e ∧ e ≤ 1000
  · rw [opN_in q] at h ⊢; exact powM_neg h
  · exact opN_out q
theorem powIn_key {k : Ky} {x e : Int} (h : kyB k = true) (hx : SgIn (kyM k) x) (he : 0 ≤ e ∧ e ≤ 1000000) : PowIn x e (kyM k) := by
  have a := kyM_pos h
  have b := kyM_rng k
  exact ⟨⟨by omega, by omega⟩, hx.2, by omega, by omega⟩
theorem pow_cast (x : Nat) (k n : Nat) : ((x : Int)) ^ k % (n : Int) = ((x ^ k % n : Nat) : Int) := by
  rw [Int.natCast_emod, Int.natCast_pow]
theorem pow_rsa {k : Ky} (h : kyB k = true) {x : Int} (hx : SgIn (kyM k) x) {m : Nat} (hm : ∃ t : Nat, (m : Int) = 1 + t * rnd k) : x ^ m % kyM k = x := by
  have ho := kyB_of h
  obtain ⟨t, ht⟩ := hm
  have hM := kyM_in h
  obtain ⟨a, b, e⟩ := k
  simp only at hM
  have o0 := ho.o
  have t0 := ho.t
  unfold PrIn at o0 t0
  simp only at o0 t0
  obtain ⟨p, rfl⟩ : ∃ p : Nat, a = p := ⟨a.toNat, by omega⟩
  obtain ⟨q, rfl⟩ : ∃ q : Nat, b = q := ⟨b.toNat, by omega⟩
  obtain ⟨y, rfl⟩ : ∃ y : Nat, x = y := ⟨x.toNat, by have := hx.2.1; omega⟩
  have hm : m = 1 + t * ((p - 1) * (q - 1)) := by
    have : (m : Int) = ((1 + t * ((p - 1) * (q - 1)) : Nat) : Int) := by
      rw [ht]; unfold rnd
      simp only
      rw [Int.natCast_add, Int.natCast_mul, Int.natCast_mul, Int.natCast_sub (by omega), Int.natCast_sub (by omega)]
      rfl
    exact Int.ofNat.inj this
  have hr := rsa ho.po ho.pt (fun e => ho.ne (by simp only; rw [e])) y t
  have hy : y < p * q := by
    have h2 := hx.2.2
    rw [hM, ← Int.natCast_mul] at h2
    omega
  rw [hM, ← Int.natCast_mul, pow_cast, hm, hr, Nat.mod_eq_of_lt hy]
theorem ed_one {k : Ky} (h : KyOk k) : ∃ t : Nat, ((kyD k).toNat * k.exp.toNat : Int) = 1 + t * rnd k := by
  have hg := (invM_got h.i).2.2
  have hd := kyD_rng h
  have hR := rnd_rng h.o h.t
  have he := h.e
  rw [mul_mod_l] at hg
  have e : k.exp * kyD k / rnd k * rnd k + k.exp * kyD k % rnd k = k.exp * kyD k := Int.ediv_mul_add_emod _ _
  have hg : k.exp * kyD k % rnd k = 1 := hg
  rw [hg] at e
  have hn : 0 ≤ k.exp * kyD k / rnd k := Int.ediv_nonneg (Int.mul_nonneg (by omega) hd.1) (by omega)
  refine ⟨(k.exp * kyD k / rnd k).toNat, ?_⟩
  rw [Int.toNat_of_nonneg hn, Int.toNat_of_nonneg hd.1, Int.toNat_of_nonneg (by omega : 0 ≤ k.exp), Int.mul_comm (kyD k)]
  omega
/-- what was signed can be opened -/
theorem sg_open {k : Ky} {x : Int} (h : kyB k = true) (hx : SgIn (kyM k) x) : opN (kyM k) k.exp (sgN k x) = x := by
  have ho := kyB_of h
  have hd := kyD_rng ho
  have he := ho.e
  have hp := powIn_key h hx hd
  obtain ⟨t, ht⟩ := ed_one ho
  rw [opN_in he, sgN_in hx, powM_in hp]
  have hm := kyM_pos h
  have hlo := mod_lo (x := x ^ (kyD k).toNat) (m := kyM k) (by omega)
  rw [powM_in (powIn_key h ⟨by omega, hlo⟩ (by omega)), pow_mod, ← Int.pow_mul]
  exact pow_rsa h hx ⟨t, by rw [Int.natCast_mul]; exact ht⟩
theorem op_sg {k : Ky} {x : Int} (h : kyB k = true) (hx : SgIn (kyM k) x) : sgN k (opN (kyM k) k.exp x) = x := by
  have ho := kyB_of h
  have hd := kyD_rng ho
  have he := ho.e
  have hp : PowIn x k.exp (kyM k) := powIn_key h hx (by omega)
  obtain ⟨t, ht⟩ := ed_one ho
  have hm := kyM_pos h
  have hlo := mod_lo (x := x ^ k.exp.toNat) (m := kyM k) (by omega)
  rw [opN_in he, powM_in hp, sgN_in ⟨by omega, hlo⟩, powM_in (powIn_key h ⟨by omega, hlo⟩ hd), pow_mod, ← Int.pow_mul]
  exact pow_rsa h hx ⟨t, by rw [Nat.mul_comm, Int.natCast_mul]; exact ht⟩
theorem sgN_lo {k : Ky} {x : Int} (h : 0 ≤ sgN k x) : kyB k = true ∧ SgIn (kyM k) x ∧ sgN k x < kyM k := by
  by_cases q : SgIn (kyM k) x
  · rw [sgN_in q] at h ⊢
    exact ⟨kyM_got q.1, q, (powM_lo h).2⟩
  · rw [sgN_out q] at h; omega
theorem sgN_neg {k : Ky} {x : Int} (h : sgN k x < 0) : sgN k x = -1 := by
  by_cases q : SgIn (kyM k) x
  · rw [sgN_in q] at h ⊢; exact powM_neg h
  · exact sgN_out q
theorem sgN_yes {k : Ky} {x : Int} (h : kyB k = true) (q : SgIn (kyM k) x) : 0 ≤ sgN k x := by
  have hp := powIn_key h q (kyD_rng (kyB_of h))
  rw [sgN_in q, powM_in hp]
  exact (mod_lo hp.1.1).1
/-- opening a product -/
theorem op_mul {n e x : Int} (h : 0 ≤ opN n e x) : opN n e (mulM x x n) = mulM (opN n e x) (opN n e x) n := by
  obtain ⟨he, hp, hlt⟩ := opN_lo h
  have hm := mod_lo (x := x * x) hp.1.1
  rw [opN_in he, opN_in he] at *
  rw [mulM_in ⟨hp.1, hp.2.1, hp.2.1⟩, powM_in ⟨hp.1, hm, hp.2.2⟩, powM_in hp]
  have hl := mod_lo (x := x ^ e.toNat) hp.1.1
  rw [mulM_in ⟨hp.1, hl, hl⟩, pow_mod, sq_pow, pow_split]
  congr 2; omega
/-! Digests. -/
def dgS (n c : Int) : Int := (257 * n + c) % 999983
def dgL (l : List UInt8) : Int := l.foldl (fun n c => dgS n (c.toNat : Int)) 1
theorem dgS_lo (n c : Int) : 0 ≤ dgS n c ∧ dgS n c < 999983 := by unfold dgS; omega
theorem dgL_snoc (l : List UInt8) (c : UInt8) : dgL (l ++ [c]) = dgS (dgL l) (c.toNat : Int) := by unfold dgL; rw [List.foldl_append]; rfl
theorem dgL_lo (l : List UInt8) : 0 ≤ dgL l ∧ dgL l < 999983 := by
  by_cases h : l = []
  · subst h; decide
  · rw [← List.dropLast_concat_getLast h, dgL_snoc]; exact dgS_lo _ _
/-- the digest of a text -/
def dgO (l : List UInt8) : Int := if textB l = true then dgL l else -1
theorem dgO_in {l : List UInt8} (h : textB l = true) : dgO l = dgL l := by simp [dgO, h]
theorem dgO_out {l : List UInt8} (h : textB l = false) : dgO l = -1 := by simp [dgO, h]
/-- of a text with a byte more -/
def dgM (d b : Int) : Int := if (0 ≤ d ∧ d ≤ 999982) ∧ (32 ≤ b ∧ b ≤ 126) then dgS d b else -1
theorem dgM_in {d b : Int} (h : (0 ≤ d ∧ d ≤ 999982) ∧ (32 ≤ b ∧ b ≤ 126)) : dgM d b = dgS d b := by unfold dgM; rw [if_pos h]
theorem dgM_out {d b : Int} (h : ¬ ((0 ≤ d ∧ d ≤ 999982) ∧ (32 ≤ b ∧ b ≤ 126))) : dgM d b = -1 := by unfold dgM; rw [if_neg h]
theorem dgS_ne (n c : Int) : dgS n c ≠ dgS n (c + 1) := by unfold dgS; omega
theorem dgM_next {d b : Int} (h : (0 ≤ d ∧ d ≤ 999982) ∧ (32 ≤ b ∧ b ≤ 126)) (hb : b ≠ 126) : dgM d (b + 1) ≠ dgM d b := by
  rw [dgM_in h, dgM_in ⟨h.1, by omega, by omega⟩]; exact (dgS_ne d b).symm
theorem text_snoc {l : List UInt8} {c : UInt8} (h : textB l = true) (hl : l.length < 80) (hc : tcB c = true) : textB (l ++ [c]) = true := by
  unfold textB at h ⊢
  simp only [Bool.and_eq_true, decide_eq_true_eq, List.all_append, List.all_cons, List.all_nil, Bool.and_true, List.length_append, List.length_singleton] at h ⊢
  exact ⟨by omega, h.2, hc⟩
/-- with another last byte it is another digest, and byte by byte it goes on -/
theorem dgO_last {l : List UInt8} (h : textB l = true) (hl : l.length < 80) : dgO (l ++ [97]) ≠ dgO (l ++ [98]) ∧ dgO (l ++ [97]) = dgM (dgO l) 97 := by
  have h1 := dgL_lo l
  rw [dgO_in (text_snoc h hl (by decide)), dgO_in (text_snoc h hl (by decide)), dgO_in h, dgL_snoc, dgL_snoc]
  refine ⟨dgS_ne (dgL l) 97, ?_⟩
  rw [dgM_in ⟨⟨by omega, by omega⟩, by omega, by omega⟩]; rfl
/-- of numbers -/
def dgT (n x : Int) : Int := (1009 * n + x) % 999983
def dgN (L : List Int) : Int := L.foldl dgT 7
def gtB (x : Int) : Bool := decide (0 ≤ x ∧ x ≤ 1000000000)
def dgI (L : List Int) : Int := if L.all gtB = true ∧ L.length ≤ 20 then dgN L else -1
theorem dgT_lo (n x : Int) : 0 ≤ dgT n x ∧ dgT n x < 999983 := by unfold dgT; omega
theorem dgN_snoc (L : List Int) (x : Int) : dgN (L ++ [x]) = dgT (dgN L) x := by unfold dgN; rw [List.foldl_append]; rfl
theorem dgN_lo (L : List Int) : 0 ≤ dgN L ∧ dgN L < 999983 := by
  by_cases h : L = []
  · subst h; decide
  · rw [← List.dropLast_concat_getLast h, dgN_snoc]; exact dgT_lo _ _
theorem dgI_in {L : List Int} (h : L.all gtB = true) (k : L.length ≤ 20) : dgI L = dgN L := by unfold dgI; rw [if_pos ⟨h, k⟩]
theorem dgI_bad {L : List Int} {x : Int} (h : x ∈ L) (k : gtB x = false) : dgI L = -1 := by
  unfold dgI; rw [if_neg]
  rintro ⟨a, _⟩
  have := List.all_eq_true.1 a x h
  rw [k] at this; cases this
theorem dgI_long {L : List Int} (h : 20 < L.length) : dgI L = -1 := by unfold dgI; rw [if_neg (by omega)]
theorem dgI_nil : dgI [] = 7 := rfl
theorem dgI_more {L : List Int} (h : L.all gtB = true) (k : L.length < 20) : dgI (L ++ [6]) = (dgI (L ++ [5]) + 1) % 999983 := by
  have h5 : (L ++ [5]).all gtB = true := by rw [List.all_append, h]; decide
  have h6 : (L ++ [6]).all gtB = true := by rw [List.all_append, h]; decide
  rw [dgI_in h6 (by rw [List.length_append, List.length_singleton]; omega), dgI_in h5 (by rw [List.length_append, List.length_singleton]; omega), dgN_snoc, dgN_snoc]
  unfold dgT; omega
/-! Signatures. -/
structure Sg where
  text : ByteArray
  modulus : Int
  exp : Int
  sig : Int
def Sg.zero : Sg := ⟨⟨#[]⟩, 0, 0, 0⟩
theorem sg_eta (s : Sg) : (⟨s.text, s.modulus, s.exp, s.sig⟩ : Sg) = s := rfl
theorem dg_mod {l : List UInt8} {n : Int} (h : textB l = true) (hn : 1 ≤ n) : 0 ≤ dgO l % n ∧ dgO l % n ≤ n - 1 := mod_lo hn
theorem dgO_lo {l : List UInt8} (h : textB l = true) : 0 ≤ dgO l ∧ dgO l ≤ 999982 := by
  rw [dgO_in h]; have := dgL_lo l; omega
theorem dgO_rng (l : List UInt8) : -1 ≤ dgO l ∧ dgO l ≤ 999982 := by
  rcases h : textB l with _ | _
  · rw [dgO_out h]; omega
  · have := dgO_lo h; omega
noncomputable def sgX (k : Ky) (s : ByteArray) : Sg × Bool :=
  if kyB k = true ∧ textB s.data.toList = true then (⟨s, kyM k, k.exp, sgN k (dgO s.data.toList % kyM k)⟩, true) else (Sg.zero, false)
theorem sgX_in {k : Ky} {s : ByteArray} (h : kyB k = true) (t : textB s.data.toList = true) : sgX k s = (⟨s, kyM k, k.exp, sgN k (dgO s.data.toList % kyM k)⟩, true) := by unfold sgX; rw [if_pos ⟨h, t⟩]
theorem sgX_key {k : Ky} {s : ByteArray} (h : kyB k = false) : sgX k s = (Sg.zero, false) := by unfold sgX; rw [if_neg (by rw [h]; simp)]
theorem sgX_text {k : Ky} {s : ByteArray} (h : textB s.data.toList = false) : sgX k s = (Sg.zero, false) := by unfold sgX; rw [if_neg (by rw [h]; simp)]
theorem sgX_no {k : Ky} {s : ByteArray} {x : Sg} (h : sgX k s = (x, false)) : x = Sg.zero := by
  unfold sgX at h
  split at h
  · simp at h
  · injection h with a _; exact a.symm
theorem sgX_ok {k : Ky} {s : ByteArray} {x : Sg} (h : sgX k s = (x, true)) : kyB k = true ∧ textB s.data.toList = true ∧ x = ⟨s, kyM k, k.exp, sgN k (dgO s.data.toList % kyM k)⟩ := by
  unfold sgX at h
  split at h
  · rename_i q; injection h with a _; exact ⟨q.1, q.2, a.symm⟩
  · simp at h
def sgR (s : Sg) : Bool := textB s.text.data.toList && decide (100 ≤ s.modulus ∧ s.modulus ≤ 1000000) && decide (opN s.modulus s.exp s.sig = dgO s.text.data.toList % s.modulus)
theorem sgR_text {s : Sg} (h : textB s.text.data.toList = false) : sgR s = false := by unfold sgR; rw [h]; simp
theorem sgR_mod {s : Sg} (h : inB s.modulus 100 1000000 = false) : sgR s = false := by unfold sgR; unfold inB at h; rw [h]; simp
theorem sgR_in {s : Sg} (h : textB s.text.data.toList = true) (m : inB s.modulus 100 1000000 = true) : sgR s = decide (opN s.modulus s.exp s.sig = dgO s.text.data.toList % s.modulus) := by
  unfold sgR; unfold inB at m; rw [h, m]; simp
theorem sgR_of {s : Sg} (h : sgR s = true) : textB s.text.data.toList = true ∧ (100 ≤ s.modulus ∧ s.modulus ≤ 1000000) ∧ opN s.modulus s.exp s.sig = dgO s.text.data.toList % s.modulus := by
  unfold sgR at h; simp only [Bool.and_eq_true, decide_eq_true_eq] at h; exact ⟨h.1.1, h.1.2, h.2⟩
noncomputable def sgY (s : Sg) (k : Ky) : Bool := sgR s && decide (kyM k = s.modulus) && decide (k.exp = s.exp)
theorem sgY_no {s : Sg} {k : Ky} (h : sgR s = false) : sgY s k = false := by unfold sgY; rw [h]; rfl
theorem sgY_mod {s : Sg} {k : Ky} (h : kyM k ≠ s.modulus) : sgY s k = false := by unfold sgY; simp [h]
theorem sgY_exp {s : Sg} {k : Ky} (h : k.exp ≠ s.exp) : sgY s k = false := by unfold sgY; simp [h]
theorem sgY_yes {s : Sg} {k : Ky} (h : sgR s = true) (h1 : kyM k = s.modulus) (h2 : k.exp = s.exp) : sgY s k = true := by unfold sgY; simp [h, h1, h2]
theorem sgY_of {s : Sg} {k : Ky} (h : sgY s k = true) : sgR s = true ∧ kyM k = s.modulus ∧ k.exp = s.exp := by
  unfold sgY at h; simp only [Bool.and_eq_true, decide_eq_true_eq] at h; exact ⟨h.1.1, h.1.2, h.2⟩
/-- what was signed is by the key -/
theorem sgX_by {k : Ky} {s : ByteArray} {x : Sg} (h : sgX k s = (x, true)) : sgY x k = true := by
  obtain ⟨hk, ht, rfl⟩ := sgX_ok h
  have hp := kyM_pos hk
  have hr := kyM_rng k
  have hm := mod_lo (x := dgO s.data.toList) (m := kyM k) (by omega)
  refine sgY_yes ?_ rfl rfl
  rw [sgR_in ht (inB_true hp (by show kyM k ≤ 1000000; omega))]
  exact decide_eq_true (sg_open hk ⟨by omega, hm⟩)
theorem sgX_sig {k : Ky} {s : ByteArray} {x : Sg} (h : sgX k s = (x, true)) : x.text = s ∧ x.text.size ≤ 80 ∧ 100 ≤ x.modulus ∧ x.modulus ≤ 994009 ∧ 3 ≤ x.exp ∧ x.exp ≤ 1000 ∧ 0 ≤ x.sig ∧ x.sig ≤ 994009 := by
  obtain ⟨hk, ht, rfl⟩ := sgX_ok h
  have hp := kyM_pos hk
  have hr := kyM_rng k
  have he := (kyB_of hk).e
  have hm := mod_lo (x := dgO s.data.toList) (m := kyM k) (by omega)
  have hy := sgN_yes hk ⟨by omega, hm⟩
  have hl := (sgN_lo hy).2.2
  have h80 : s.size ≤ 80 := by
    unfold textB at ht
    simp only [Bool.and_eq_true, decide_eq_true_eq] at ht
    rw [← blen]; exact ht.1
  refine ⟨rfl, h80, hp, hr.2, he.1, he.2, hy, ?_⟩
  show sgN k _ ≤ 994009
  omega
/-! Rotations. -/
structure Tn where
  day : Int
  usd : Ky
instance tnDec : DecidableEq Tn := fun a b => if h : a.day = b.day ∧ a.usd = b.usd then isTrue (by obtain ⟨a0, a1⟩ := a; obtain ⟨b0, b1⟩ := b; obtain ⟨h0, h1⟩ := h; simp only at h0 h1; subst h0; subst h1; rfl) else isFalse (by rintro rfl; exact h ⟨rfl, rfl⟩)
noncomputable def tnB (a : Tn) : Bool := kyB a.usd && inB a.day 0 1000000000
theorem tnB_of {a : Tn} (h : tnB a = true) : kyB a.usd = true ∧ 0 ≤ a.day ∧ a.day ≤ 1000000000 := by
  unfold tnB inB at h; simp only [Bool.and_eq_true, decide_eq_true_eq] at h; exact h
theorem tnB_key {a : Tn} (h : kyB a.usd = false) : tnB a = false := by unfold tnB; rw [h]; rfl
theorem tnB_day {a : Tn} (h : inB a.day 0 1000000000 = false) : tnB a = false := by unfold tnB; rw [h]; simp
theorem tnB_all {a : Tn} (h : kyB a.usd = true) (k : inB a.day 0 1000000000 = true) : tnB a = true := by unfold tnB; rw [h, k]; rfl
/-- the next one goes on from the one before -/
noncomputable def nxB (a b : Tn) : Bool := decide (a.day < b.day) && decide (kyM b.usd ≠ kyM a.usd)
theorem nxB_of {a b : Tn} (h : nxB a b = true) : a.day < b.day ∧ kyM b.usd ≠ kyM a.usd := by
  unfold nxB at h; simpa using h
theorem nxB_day {a b : Tn} (h : b.day ≤ a.day) : nxB a b = false := by unfold nxB; rw [decide_eq_false (by omega)]; rfl
theorem nxB_mod {a b : Tn} (h : kyM b.usd = kyM a.usd) : nxB a b = false := by unfold nxB; simp [h]
theorem nxB_mk {a b : Tn} (h : a.day < b.day) (k : kyM b.usd ≠ kyM a.usd) : nxB a b = true := by unfold nxB; simp [h, k]
/-- the first k are well -/
def PreTn (L : List Tn) (k : Nat) : Prop := (∀ i (h : i < L.length), i < k → tnB L[i] = true) ∧ ∀ i (h : i + 1 < L.length), i + 1 < k → nxB L[i] L[i + 1] = true
noncomputable instance tnsDec (L : List Tn) : Decidable (L.length ≤ 6 ∧ PreTn L L.length) := Classical.propDecidable _
noncomputable def tnsB (L : List Tn) : Bool := decide (L.length ≤ 6 ∧ PreTn L L.length)
theorem tnsB_of {L : List Tn} (h : tnsB L = true) : L.length ≤ 6 ∧ PreTn L L.length := by unfold tnsB at h; exact of_decide_eq_true h
theorem tnsB_mk {L : List Tn} (h : L.length ≤ 6) (p : PreTn L L.length) : tnsB L = true := by unfold tnsB; exact decide_eq_true ⟨h, p⟩
theorem tnsB_not {L : List Tn} (h : tnsB L = true → False) : tnsB L = false := by
  rcases q : tnsB L with _ | _
  · rfl
  · exact (h q).elim
theorem preTn_zero (L : List Tn) : PreTn L 0 := ⟨fun i h h0 => by omega, fun i h h0 => by omega⟩
theorem preTn_first {L : List Tn} (h : 0 < L.length) (b : tnB L[0] = true) : PreTn L 1 := ⟨fun i h h0 => by
  obtain rfl : i = 0 := by omega
  exact b, fun i h h0 => by omega⟩
theorem preTn_next {L : List Tn} {k : Nat} (h : k + 1 < L.length) (p : PreTn L (k + 1)) (b : tnB L[k + 1] = true) (n : nxB L[k] L[k + 1] = true) : PreTn L (k + 2) := ⟨fun i hi h0 => by
  by_cases e : i = k + 1
  · subst e; exact b
  · exact p.1 i hi (by omega), fun i hi h0 => by
  by_cases e : i = k
  · subst e; exact n
  · exact p.2 i hi (by omega)⟩
theorem tnsB_item {L : List Tn} {k : Nat} (h : k < L.length) (b : tnB L[k] = false) : tnsB L = false := tnsB_not fun q => by
  have := (tnsB_of q).2.1 k h h; rw [b] at this; cases this
theorem tnsB_step {L : List Tn} {k : Nat} (h : k + 1 < L.length) (b : nxB L[k] L[k + 1] = false) : tnsB L = false := tnsB_not fun q => by
  have := (tnsB_of q).2.2 k h h; rw [b] at this; cases this
theorem preTn_end {L : List Tn} {k : Nat} (h : L.length ≤ k) (p : PreTn L k) : decide ((L.length : Int) ≤ 6) = tnsB L := by
  have p' : PreTn L L.length := ⟨fun i hi _ => p.1 i hi (by omega), fun i hi _ => p.2 i hi (by omega)⟩
  by_cases a : L.length ≤ 6
  · rw [tnsB_mk a p']; exact decide_eq_true (by omega)
  · rw [tnsB_not (fun q => a (tnsB_of q).1)]; exact decide_eq_false (by omega)
theorem tnsB_nil : tnsB [] = true := tnsB_mk (by simp) (preTn_zero _)
theorem tnsB_drop {L : List Tn} (h : tnsB L = true) : tnsB (L.drop 1) = true := by
  obtain ⟨h6, p1, p2⟩ := tnsB_of h
  refine tnsB_mk (by rw [List.length_drop]; omega) ⟨fun i hi _ => ?_, fun i hi _ => ?_⟩
  · rw [List.length_drop] at hi; rw [List.getElem_drop]; exact p1 _ (by omega) (by omega)
  · rw [List.length_drop] at hi; rw [List.getElem_drop, List.getElem_drop]; exact p2 (1 + i) (by omega) (by omega)
theorem tnsB_more {L : List Tn} (h : 0 < L.length) : tnsB ([L[0]] ++ L) = false := by
  cases L with
  | nil => simp at h
  | cons a L => exact tnsB_step (L := [a] ++ (a :: L)) (k := 0) (by simp) (nxB_day (Int.le_refl _))
theorem tnsB_take {L M : List Tn} (h : tnsB (L ++ M) = true) : tnsB L = true := by
  obtain ⟨h6, p1, p2⟩ := tnsB_of h
  rw [List.length_append] at h6
  refine tnsB_mk (by omega) ⟨fun i hi _ => ?_, fun i hi _ => ?_⟩
  · have := p1 i (by rw [List.length_append]; omega) (by rw [List.length_append]; omega)
    rwa [List.getElem_append_left hi] at this
  · have := p2 i (by rw [List.length_append]; omega) (by rw [List.length_append]; omega)
    rwa [List.getElem_append_left hi, List.getElem_append_left (by omega)] at this
theorem tns_lt {L : List Tn} (h : tnsB L = true) {i j : Nat} (hij : i < j) (hj : j < L.length) : L[i].day < L[j].day := by
  obtain ⟨_, _, p⟩ := tnsB_of h
  induction j with
  | zero => omega
  | succ j ih =>
    have h1 := (nxB_of (p j hj hj)).1
    by_cases e : i = j
    · subst e; exact h1
    · have := ih (by omega) (by omega); omega
/-- the key of a day: the last one from a day on that is not after it -/
def kyF (d : Int) (p : Ky × Bool) (t : Tn) : Ky × Bool := if t.day ≤ d then (t.usd, true) else p
def kyA (L : List Tn) (d : Int) : Ky × Bool := L.foldl (kyF d) (Ky.zero, false)
noncomputable def kyO (L : List Tn) (d : Int) : Ky × Bool := if tnsB L = true then kyA L d else (Ky.zero, false)
theorem kyA_snoc (L : List Tn) (t : Tn) (d : Int) : kyA (L ++ [t]) d = if t.day ≤ d then (t.usd, true) else kyA L d := by unfold kyA; rw [List.foldl_append]; rfl
theorem kyA_next {L : List Tn} {k : Nat} (h : k < L.length) (d : Int) : kyA (L.take (k + 1)) d = if L[k].day ≤ d then (L[k].usd, true) else kyA (L.take k) d := by
  rw [List.take_succ_eq_append_getElem h, kyA_snoc]
theorem kyO_in {L : List Tn} (h : tnsB L = true) (d : Int) : kyO L d = kyA L d := by unfold kyO; rw [if_pos h]
theorem kyO_out {L : List Tn} (h : tnsB L = false) (d : Int) : kyO L d = (Ky.zero, false) := by unfold kyO; rw [if_neg (by rw [h]; decide)]
theorem kyO_nil (d : Int) : kyO [] d = (Ky.zero, false) := by rw [kyO_in tnsB_nil]; rfl
theorem kyA_no {L : List Tn} {d : Int} (h : ∀ i (hi : i < L.length), d < L[i].day) : kyA L d = (Ky.zero, false) := by
  induction L with
  | nil => rfl
  | cons a L ih =>
    have h0 : d < a.day := h 0 (by simp)
    unfold kyA
    rw [List.foldl_cons, show kyF d (Ky.zero, false) a = (Ky.zero, false) by unfold kyF; rw [if_neg (by omega)]]
    exact ih (fun i hi => h (i + 1) (by simpa using hi))
theorem kyA_atN : ∀ (n : Nat) {L : List Tn} {d : Int} {j : Nat}, L.length = n → ∀ (hj : j < L.length), L[j].day ≤ d → (∀ i (hi : i < L.length), j < i → d < L[i].day) → kyA L d = (L[j].usd, true) := by
  intro n
  induction n with
  | zero => intro L d j hn hj; omega
  | succ n ih =>
    intro L d j hn hj h1 h2
    obtain ⟨M, t, rfl⟩ : ∃ M t, L = M ++ [t] := ⟨L.dropLast, L.getLast (by intro e; rw [e] at hn; simp at hn), (List.dropLast_concat_getLast _).symm⟩
    rw [List.length_append, List.length_singleton] at hn
    rw [kyA_snoc]
    have hjM : j < M.length + 1 := by simpa using hj
    by_cases e : j = n
    · have : (M ++ [t])[j] = t := by
        rw [List.getElem_append_right (by omega)]; simp
      rw [this] at h1 ⊢
      rw [if_pos h1]
    · have hl : (M ++ [t])[j] = M[j]'(by omega) := List.getElem_append_left (by omega)
      have hlast := h2 n (by rw [List.length_append, List.length_singleton]; omega) (by omega)
      have : (M ++ [t])[n]'(by rw [List.length_append, List.length_singleton]; omega) = t := by
        rw [List.getElem_append_right (by omega)]; simp
      rw [this] at hlast
      rw [if_neg (by omega), hl]
      rw [hl] at h1
      exact ih (L := M) (by omega) (by omega) h1 (fun i hi hji => by
        have := h2 i (by rw [List.length_append]; omega) hji
        rwa [List.getElem_append_left (by omega)] at this)
theorem kyA_at {L : List Tn} {d : Int} {j : Nat} (hj : j < L.length) (h : L[j].day ≤ d) (q : ∀ i (hi : i < L.length), j < i → d < L[i].day) : kyA L d = (L[j].usd, true) := kyA_atN L.length rfl hj h q
theorem kyO_at {L : List Tn} (h : tnsB L = true) {j : Nat} (hj : j < L.length) : kyO L L[j].day = (L[j].usd, true) := by
  rw [kyO_in h]; exact kyA_at hj (Int.le_refl _) (fun i hi hji => tns_lt h hji hi)
theorem kyO_early {L : List Tn} (h : tnsB L = true) (h0 : 0 < L.length) {d : Int} (hd : d < L[0].day) : kyO L d = (Ky.zero, false) := by
  rw [kyO_in h]; refine kyA_no fun i hi => ?_
  by_cases e : i = 0
  · subst e; exact hd
  · have := tns_lt h (i := 0) (j := i) (by omega) hi; omega
theorem kyA_ok : ∀ (L : List Tn) (d : Int), (kyA L d).2 = true ↔ ∃ i, ∃ h : i < L.length, L[i].day ≤ d := by
  intro L d
  constructor
  · intro h
    apply Classical.byContradiction
    intro q
    rw [kyA_no (fun i hi => by
      apply Int.not_le.1; intro z; exact q ⟨i, hi, z⟩)] at h
    cases h
  · rintro ⟨i, hi, h⟩
    have : ∀ (M : List Tn) (p : Ky × Bool), (p.2 = true ∨ ∃ t ∈ M, t.day ≤ d) → (M.foldl (kyF d) p).2 = true := by
      intro M
      induction M with
      | nil => intro p q; rcases q with q | ⟨t, m, _⟩
               · exact q
               · simp at m
      | cons a M ih =>
        intro p q
        rw [List.foldl_cons]
        refine ih _ ?_
        unfold kyF
        rcases q with q | ⟨t, m, ht⟩
        · left; split
          · rfl
          · exact q
        · rcases List.mem_cons.1 m with rfl | m
          · left; rw [if_pos ht]
          · exact .inr ⟨t, m, ht⟩
    exact this L _ (.inr ⟨_, List.getElem_mem hi, h⟩)
theorem kyO_ok {L : List Tn} (h : tnsB L = true) (h0 : 0 < L.length) (d : Int) : (kyO L d).2 = decide (L[0].day ≤ d) := by
  by_cases z : L[0].day ≤ d
  · rw [decide_eq_true z, kyO_in h]; exact (kyA_ok L d).2 ⟨0, h0, z⟩
  · rw [decide_eq_false z, kyO_early h h0 (by omega)]
theorem kyO_got {L : List Tn} {d : Int} {k : Ky} (h : kyO L d = (k, true)) : tnsB L = true ∧ 0 ≤ d ∧ ∃ i, ∃ hi : i < L.length, L[i].day ≤ d := by
  rcases q : tnsB L with _ | _
  · rw [kyO_out q] at h; cases h
  · rw [kyO_in q] at h
    obtain ⟨i, hi, hd⟩ := (kyA_ok L d).1 (by rw [h])
    have := (tnB_of ((tnsB_of q).2.1 i hi hi)).2.1
    exact ⟨rfl, by omega, i, hi, hd⟩
theorem kyA_false {L : List Tn} {d : Int} {k : Ky} (h : kyA L d = (k, false)) : k = Ky.zero := by
  have : kyA L d = (Ky.zero, false) := kyA_no (fun i hi => by
    apply Int.not_le.1; intro z
    have := (kyA_ok L d).2 ⟨i, hi, z⟩
    rw [h] at this; cases this)
  rw [h] at this; injection this
theorem kyO_false {L : List Tn} {d : Int} {k : Ky} (h : kyO L d = (k, false)) : k = Ky.zero := by
  rcases q : tnsB L with _ | _
  · rw [kyO_out q] at h; injection h with a b; exact a.symm
  · rw [kyO_in q] at h; exact kyA_false h
/-- one more -/
noncomputable def adT (L : List Tn) (t : Tn) : List Tn × Bool := if tnsB L = true then (if tnsB (L ++ [t]) = true then (L ++ [t], true) else (L, false)) else ([], false)
theorem adT_no {L : List Tn} {t : Tn} (h : tnsB L = false) : adT L t = ([], false) := by unfold adT; rw [if_neg (by rw [h]; decide)]
theorem adT_bad {L : List Tn} {t : Tn} (h : tnsB L = true) (k : tnsB (L ++ [t]) = false) : adT L t = (L, false) := by unfold adT; rw [if_pos h, if_neg (by rw [k]; decide)]
theorem adT_yes {L : List Tn} {t : Tn} (h : tnsB L = true) (k : tnsB (L ++ [t]) = true) : adT L t = (L ++ [t], true) := by unfold adT; rw [if_pos h, if_pos k]
theorem adT_len (L : List Tn) (t : Tn) : (adT L t).1.length ≤ 6 := by
  unfold adT; split
  · split
    · rename_i h; exact (tnsB_of h).1
    · rename_i h _; exact (tnsB_of h).1
  · simp
theorem adT_of {L M : List Tn} {t : Tn} (h : adT L t = (M, true)) : tnsB L = true ∧ tnsB M = true ∧ M = L ++ [t] := by
  unfold adT at h; split at h
  · rename_i q; split at h
    · rename_i z; injection h with a _; rw [← a]; exact ⟨q, z, rfl⟩
    · cases h
  · cases h
theorem adT_same {L M : List Tn} {t : Tn} (h : adT L t = (M, false)) : M = L ∨ M = [] := by
  unfold adT at h; split at h
  · split at h
    · cases h
    · injection h with a _; exact .inl a.symm
  · injection h with a _; exact .inr a.symm
theorem adT_key {L M : List Tn} {t : Tn} (h : adT L t = (M, true)) : kyO M t.day = (t.usd, true) := by
  obtain ⟨_, hM, rfl⟩ := adT_of h
  have hl : L.length < (L ++ [t]).length := by simp
  have := kyO_at hM hl
  have e : (L ++ [t])[L.length] = t := by simp
  rw [e] at this; exact this
theorem adT_before {L M : List Tn} {t : Tn} (h : adT L t = (M, true)) : kyO M (t.day - 1) = kyO L (t.day - 1) := by
  obtain ⟨hL, hM, rfl⟩ := adT_of h
  rw [kyO_in hM, kyO_in hL, kyA_snoc, if_neg (by omega)]
/-- what counts on a day -/
noncomputable def sgC (L : List Tn) (s : Sg) (d : Int) (b : Nat) : Bool := (kyO L (d - b)).2 && sgY s (kyO L (d - b)).1
noncomputable def sgO (L : List Tn) (s : Sg) (d : Int) : Bool := tnsB L && inB d 0 1000000000 && (List.range 31).any (sgC L s d)
theorem sgO_no {L : List Tn} {s : Sg} {d : Int} (h : tnsB L = false) : sgO L s d = false := by unfold sgO; rw [h]; rfl
theorem sgO_day {L : List Tn} {s : Sg} {d : Int} (h : inB d 0 1000000000 = false) : sgO L s d = false := by unfold sgO; rw [h]; simp
theorem sgO_yes {L : List Tn} {s : Sg} {d : Int} (h : tnsB L = true) (k : inB d 0 1000000000 = true) {b : Nat} (hb : b ≤ 30) (q : sgC L s d b = true) : sgO L s d = true := by
  unfold sgO; rw [h, k]; simp only [Bool.true_and, List.any_eq_true, List.mem_range]; exact ⟨b, by omega, q⟩
theorem sgO_none {L : List Tn} {s : Sg} {d : Int} (q : ∀ b, b < 31 → sgC L s d b = false) : sgO L s d = false := by
  unfold sgO
  rw [show (List.range 31).any (sgC L s d) = false by
    rw [List.any_eq_false]; intro b m; rw [List.mem_range] at m; rw [q b m]; simp]
  simp
theorem sgC_in {L : List Tn} {s : Sg} {d : Int} {b : Nat} {k : Ky} (h : kyO L (d - b) = (k, true)) : sgC L s d b = sgY s k := by unfold sgC; rw [h]; simp
theorem sgC_out {L : List Tn} {s : Sg} {d : Int} {b : Nat} {k : Ky} (h : kyO L (d - b) = (k, false)) : sgC L s d b = false := by unfold sgC; rw [h]; rfl
theorem sgO_right {L : List Tn} {s : Sg} {d : Int} (h : sgO L s d = true) : sgR s = true := by
  unfold sgO at h
  simp only [Bool.and_eq_true, List.any_eq_true] at h
  obtain ⟨_, b, _, q⟩ := h
  unfold sgC at q
  rw [Bool.and_eq_true] at q
  exact (sgY_of q.2).1
theorem sgO_now {L : List Tn} {s : Sg} {d : Int} {k : Ky} (h : kyO L d = (k, true)) (hd : d ≤ 1000000000) (y : sgY s k = true) : sgO L s d = true := by
  obtain ⟨h1, h2, _⟩ := kyO_got h
  refine sgO_yes h1 (by unfold inB; simp; omega) (b := 0) (by omega) ?_
  rw [sgC_in (k := k) (by simpa using h)]; exact y
end Go.Proofs.Ythniiknhbhoncaa
