/-
  The verifier's own text: MarkL2 LawF4 HeldF LawS3.
-/
import Derived.Test.YtbljpbmpfmnemaaRows
import Derived.Test.YtbljpbmpfmnemaaGb
import Derived.Test.YtbljpbmpfmnemaaGr
import Derived.Test.YtbljpbmpfmnemaaGq
import Derived.Deep.RegionHeld3
import Derived.Test.YtbljpbmpfmnemaaGu
import Derived.WalkKit
import Derived.ProofKit
import Derived.Below
import Derived.Lib.Hide
import Derived.Outline
import Derived.BigQuiet
import Derived.Deep.QuietTactic
import Derived.Deep.Draws
import Derived.Laws.OwnMore
import Derived.Laws.Rows
import Derived.WalkSpells
import Derived.Deep.RegionWith
namespace Go.Proofs.Ytbljpbmpfmnemaa
open Go.RowKit
set_option linter.unusedVariables false
set_option maxRecDepth 100000 in
set_option maxHeartbeats 1000000 in
theorem mkl_big (k : Nat) (w : World) (hk : k ≤ 100000000) :
    Calls Try.prog 55 #[.int .i64 k] w fun e w' => e = .returned (.string (mlT k)) ∧ Below w.heap.size w w' := by
  by_cases h0 : k = 0
  · subst h0
    go_enter Try.func55, Try.ntmps55
    go_wp2
    go_ret
    exact ⟨rfl, Below.refl _ _⟩
  · have HT : Hid (mlT k = bs (109 :: mlF k k [])) := Lib.hid (by simp [mlT, h0])
    have happ := bs_append
    have hpos : 0 < k := by omega
    have d0 : decide ((k : Int) ≤ 0) = false := decide_eq_false (by omega)
    have d1 : decide (k = 0) = false := decide_eq_false h0
    have d2 : ¬ ((k : Int) ≤ 0) := by omega
    clear h0
    go_enter Try.func55, Try.ntmps55
    go_wp2
    go_loopw [0, 3] (fun i t wr => ∃ (n : Nat) (acc : List UInt8), i = .int .i64 n ∧ t = .string (bs acc) ∧ acc.length + n ≤ k ∧ Hid (mlF k k [] = mlF n n acc) ∧ Hid (Below w.heap.size w wr)) (fun i _ _ => (intOf i).toNat)
    case atStart => exact ⟨k, [], rfl, rfl, by simp, Lib.hid rfl, Lib.hid (Below.refl _ _)⟩
    case round =>
      obtain ⟨n, acc, rfl, rfl, hl, hp, hbr⟩ := hrel
      by_cases hn : n = 0
      · subst hn
        have HR : Hid (mlT k = bs (109 :: acc)) := Lib.hid (by rw [HT.out, hp.out, mlF_zero])
        have z1 : (⟨#[109]⟩ : ByteArray).size + (bs acc).size ≤ 9223372036854775807 := by rw [bs_size]; show 1 + _ ≤ _; omega
        go_wp2
        go_ret
        exact ⟨by rw [HR.out]; show Ending.returned (.string (bs [109] ++ bs acc)) = _; rw [bs_append]; rfl, hbr.out⟩
      · have HN := Lib.hid (hp.out.trans (mlF_step hn acc))
        have hpn : 0 < n := by omega
        obtain ⟨c, hc⟩ : ∃ c, UInt8.ofNat (48 + n % 10) = c := ⟨_, rfl⟩
        have hcn : (c.toNat : Int) = 48 + (n : Int) % 10 := by rw [← hc, dig_u8]; omega
        rw [hc] at HN
        have hcv : ∀ w' : World, (convert 22 9 (.slice (some ⟨w'.heap.size, 0, none⟩) 1 1)).run Try.prog (w'.alloc (.cells #[.int .u8 (48 + (n : Int) % 10)] 5)) = .ok (.string (bs [c])) (w'.alloc (.cells #[.int .u8 (48 + (n : Int) % 10)] 5)) := fun w' => by
          have := conv1 w' c
          rw [hcn] at this
          exact this
        have z1 : (bs [c]).size + (bs acc).size ≤ 9223372036854775807 := by rw [bs_size, bs_size]; show 1 + _ ≤ _; omega
        clear hc hcn
        have hsz := hbr.out.size
        clear hn
        go_wp2
        go_roundw
        case rel => exact ⟨n / 10, c :: acc, by go_num, by first | rfl | (rw [bs_append]; rfl), by simp; omega, HN, Lib.hid (hbr.out.alloc hsz _)⟩
        case measure => simp [intOf]; omega
theorem mkl_bigI (k : Int) (q : Nat) (w : World) (h : k = (q : Int)) (hq : q ≤ 100000000) :
    Calls Try.prog 55 #[.int .i64 k] w fun e w' => e = .returned (.string (mlT q)) ∧ Below w.heap.size w w' := by subst h; exact mkl_big q w hq
/-- items that were marked -/
def markF (n m : Nat) : List It := (List.range n).map fun i => ⟨mlT (m + 4 * i), mlT (m + 4 * i + 1), mlT (m + 4 * i + 2), ((m + 4 * i + 3 : Nat) : Int)⟩
theorem markF_len (n m : Nat) : (markF n m).length = n := by simp [markF]
theorem markF_get (n m i : Nat) (h : i < (markF n m).length) : (markF n m)[i] = ⟨mlT (m + 4 * i), mlT (m + 4 * i + 1), mlT (m + 4 * i + 2), ((m + 4 * i + 3 : Nat) : Int)⟩ := by simp [markF]
def GotMarkF (w : World) (B : Nat) (v : Value) (n m : Nat) (e : Ending) (w' : World) : Prop := e = .returned (.int .i64 ((m + 4 * n : Nat) : Int)) ∧ OwnF w' B v (markF n m) ∧ w.grownBy w' v.ownBlock
set_option maxRecDepth 100000 in
set_option maxHeartbeats 4000000 in
theorem markIs_row (v : Value) (L : List It) (m B : Nat) (w : World) (hown : OwnF w B v L) (hn : L.length ≤ 1048576) (hm : m ≤ 1000) :
    Calls Try.prog 35 #[v, .int .i64 m] w (GotMarkF w B v L.length m) := by
  rcases OwnG.form hown with ⟨rfl, rfl⟩ | ⟨g, c, rfl, hg⟩
  · go_enter Try.func35, Try.ntmps35
    go_wp2
    refine wp_loop_rounds 1 ?_
    rw [rounds_succ]; go_wp2
    go_ret
    exact ⟨rfl, hown, grown_refl _ _⟩
  · have hown := Lib.hid hown
    go_enter Try.func35, Try.ntmps35
    go_wp2
    go_loopw [1, 5] (fun t i wr => ∃ (k q : Nat) (M : List It), k ≤ L.length ∧ i = .int .i64 k ∧ t = .int .i64 q ∧ q ≤ 5000000 ∧ Hid (q = m + 4 * k) ∧ M.length = L.length ∧ Hid (M.take k = (markF L.length m).take k) ∧ Hid (OwnF wr B (.slice (some ⟨g, 0, none⟩) L.length c) M) ∧ Hid (w.grownBy wr (some g))) (fun _ i _ => L.length - (intOf i).toNat)
    case atStart => exact ⟨0, m, L, Nat.zero_le _, rfl, rfl, by omega, Lib.hid rfl, rfl, Lib.hid rfl, hown, Lib.hid (grown_refl _ _)⟩
    case round =>
      obtain ⟨k, q, M, hk, rfl, rfl, hq1, hq, hM, hp, hownr, hbr⟩ := hrel
      have hM := Lib.hid hM
      by_cases hlt : k < L.length
      · have hkM : k < M.length := by rw [hM.out]; exact hlt
        have hset := Lib.hid (set_take (L := markF L.length m) (by rw [markF_len]; exact hM.out) (by rw [markF_len]; exact hlt) hp.out ⟨mlT q, mlT (q + 1), mlT (q + 2), ((q + 3 : Nat) : Int)⟩ (by rw [markF_get, hq.out]))
        have hjj : (k : Int) < (L.length : Int) := by omega
        have hq2 : q + 4 ≤ 5000000 := by have := hq.out; omega
        have HQ : Hid (q + 1 + 1 + 1 + 1 = m + 4 * (k + 1)) := Lib.hid (by have := hq.out; omega)
        obtain ⟨x, hx⟩ : ∃ x, M[k] = x := ⟨_, rfl⟩
        obtain ⟨x0, x1, x2, x3⟩ := x
        go_wp2_with fail
        refine (mkl_bigI _ q _ rfl (by omega)).mono ?_
        rintro e w3 ⟨rfl, hb3⟩
        have hown3 := Lib.hid (OwnG.grown hownr.out hb3)
        have hbw3 := Lib.hid (row_trans hbr.out hb3)
        obtain ⟨a0, a1, a2⟩ := OwnG.cellAt encI_len hown3.out k hkM 0 (by omega) (k * 4) rfl
        rw [hx, show (encI ⟨x0, x1, x2, x3⟩)[0]? = some (.string x0) from rfl] at a0
        have S1 := Lib.hid (OwnG.store encI_len hown3.out k hkM 0 (by omega) (.string (mlT q)) ⟨mlT q, x1, x2, x3⟩ (by rw [hx]; rfl) (k * 4) rfl).1
        have G1 := Lib.hid (row_set hbw3.out (k * 4) (.string (mlT q)))
        clear hb3
        go_wp2_with fail
        refine (mkl_bigI _ (q + 1) _ (by omega) (by omega)).mono ?_
        rintro e w5 ⟨rfl, hb5⟩
        have hown5 := Lib.hid (OwnG.grown S1.out hb5)
        have hbw5 := Lib.hid (row_trans G1.out hb5)
        clear hb5 a0 a1 a2
        have hk2 : k < (M.set k ⟨mlT q, x1, x2, x3⟩).length := by rw [List.length_set]; exact hkM
        obtain ⟨a0, a1, a2⟩ := OwnG.cellAt encI_len hown5.out k hk2 1 (by omega) (k * 4 + 1) rfl
        rw [List.getElem_set_self, show (encI ⟨mlT q, x1, x2, x3⟩)[1]? = some (.string x1) from rfl] at a0
        have s2 := (OwnG.store encI_len hown5.out k hk2 1 (by omega) (.string (mlT (q + 1))) ⟨mlT q, mlT (q + 1), x2, x3⟩ (by rw [List.getElem_set_self]; rfl) (k * 4 + 1) rfl).1
        rw [List.set_set] at s2
        have S2 := Lib.hid s2
        have G2 := Lib.hid (row_set hbw5.out (k * 4 + 1) (.string (mlT (q + 1))))
        clear s2
        go_wp2_with fail
        refine (mkl_bigI _ (q + 2) _ (by omega) (by omega)).mono ?_
        rintro e w7 ⟨rfl, hb7⟩
        have hown7 := Lib.hid (OwnG.grown S2.out hb7)
        have hbw7 := Lib.hid (row_trans G2.out hb7)
        clear hb7 a0 a1 a2
        have hk3 : k < (M.set k ⟨mlT q, mlT (q + 1), x2, x3⟩).length := by rw [List.length_set]; exact hkM
        obtain ⟨a0, a1, a2⟩ := OwnG.cellAt encI_len hown7.out k hk3 2 (by omega) (k * 4 + 2) rfl
        rw [List.getElem_set_self, show (encI ⟨mlT q, mlT (q + 1), x2, x3⟩)[2]? = some (.string x2) from rfl] at a0
        obtain ⟨b0, b1, _⟩ := OwnG.cellAt encI_len hown7.out k hk3 3 (by omega) (k * 4 + 3) rfl
        rw [List.getElem_set_self, show (encI ⟨mlT q, mlT (q + 1), x2, x3⟩)[3]? = some (.int .i64 x3) from rfl] at b0
        have s3 := (OwnG.store encI_len hown7.out k hk3 2 (by omega) (.string (mlT (q + 2))) ⟨mlT q, mlT (q + 1), mlT (q + 2), x3⟩ (by rw [List.getElem_set_self]; rfl) (k * 4 + 2) rfl).1
        have s4 := (OwnG.store encI_len s3 k (by simpa using hkM) 3 (by omega) (.int .i64 ((q + 3 : Nat) : Int)) ⟨mlT q, mlT (q + 1), mlT (q + 2), ((q + 3 : Nat) : Int)⟩ (by rw [List.getElem_set_self]; rfl) (k * 4 + 3) rfl).1
        rw [List.set_set, List.set_set] at s4
        have e3 : ((q + 3 : Nat) : Int) = (q : Int) + 1 + 1 + 1 := by omega
        have S4 := Lib.hid s4
        have G4 := Lib.hid (row_set (row_set hbw7.out (k * 4 + 2) (.string (mlT (q + 2)))) (k * 4 + 3) (.int .i64 ((q + 3 : Nat) : Int)))
        rw [e3] at S4 G4 hset
        clear s3 s4 e3
        go_wp2
        go_roundw
        case rel => exact ⟨k + 1, q + 1 + 1 + 1 + 1, _, by omega, by go_num, by go_num, hq2, HQ, by rw [List.length_set]; exact hM.out, hset, by first | exact S4 | (have := S4; simpa [Int.add_assoc] using this), by first | exact G4 | (have := G4; simpa [Int.add_assoc] using this)⟩
        case measure => simp [intOf]; omega
      · have HR : Hid (M = markF L.length m) := Lib.hid (by have := hp.out; rw [List.take_of_length_le (by have := hM.out; omega), List.take_of_length_le (by rw [markF_len]; omega)] at this; exact this)
        have hqn : q = m + 4 * L.length := by have := hq.out; omega
        have hqn := Lib.hid hqn
        go_wp2
        go_ret
        exact ⟨by rw [← hqn.out]; rfl, by rw [← HR.out]; exact hownr.out, hbr.out⟩
theorem keepF4 {W w2 w3 : World} {b i : Nat} {x0 x1 x2 x3 : Value} (hb : b < W.heap.size) (h : Below w2.heap.size w2 w3)
    (a0 : w2.cell? ⟨b, i, none⟩ = some x0) (a1 : w2.cell? ⟨b, i + 1, none⟩ = some x1) (a2 : w2.cell? ⟨b, i + 2, none⟩ = some x2) (a3 : w2.cell? ⟨b, i + 3, none⟩ = some x3) (h4 : Hid (Below W.heap.size W w2)) :
    w3.cell? ⟨b, i, none⟩ = some x0 ∧ w3.cell? ⟨b, i + 1, none⟩ = some x1 ∧ w3.cell? ⟨b, i + 2, none⟩ = some x2 ∧ w3.cell? ⟨b, i + 3, none⟩ = some x3 ∧ Hid (Below W.heap.size W w3) := by
  have hs := h4.out.size
  have q : ∀ (g k : Nat) (u : Value), g < W.heap.size → w2.cell? ⟨g, k, none⟩ = some u → w3.cell? ⟨g, k, none⟩ = some u := fun g k u hg e => by rw [h.cell (p := ⟨g, k, none⟩) (Nat.lt_of_lt_of_le hg hs)]; exact e
  exact ⟨q _ _ _ hb a0, q _ _ _ hb a1, q _ _ _ hb a2, q _ _ _ hb a3, Lib.hid (below_trans' h4.out h)⟩
set_option maxRecDepth 100000 in
set_option maxHeartbeats 2000000 in
theorem heldFs_any (v : Value) (n m : Nat) (w : World) (h : RdG encI w v (markF n m)) (hn : n ≤ 100) (hm : m ≤ 1000) :
    Calls Try.prog 36 #[v, .int .i64 m] w fun e w' => e = .returned (.int .i64 ((m + 4 * n : Nat) : Int)) ∧ Below w.heap.size w w' := by
  by_cases h0 : n = 0
  · subst h0
    obtain ⟨A, c, rfl, hc⟩ := h.nil
    go_enter Try.func36, Try.ntmps36
    go_wp2
    refine wp_loop_rounds 1 ?_
    rw [rounds_succ]; go_wp2
    go_ret
    exact ⟨rfl, Below.refl _ _⟩
  · obtain ⟨b, o, c, rfl, h1, h2, hb, h4⟩ := h.some (fun e => h0 (by rw [← markF_len n m, e]; rfl))
    rw [markF_len] at h1
    rw [markF_len]
    unfold maxLen at h2
    have hcells := Lib.hid (fun k (hk : k < (markF n m).length) => rdI_cells h4 hk)
    clear h4 h h0
    go_enter Try.func36, Try.ntmps36
    go_wp2
    go_loopw [1, 5] (fun t i wr => ∃ (k q : Nat), k ≤ n ∧ i = .int .i64 k ∧ t = .int .i64 q ∧ q ≤ 1400 ∧ Hid (q = m + 4 * k) ∧ Hid (Below w.heap.size w wr)) (fun _ i _ => n - (intOf i).toNat)
    case atStart => exact ⟨0, m, Nat.zero_le _, rfl, rfl, by omega, Lib.hid rfl, Lib.hid (Below.refl _ _)⟩
    case round =>
      obtain ⟨k, q, hk, rfl, rfl, hq1, hq, hbr⟩ := hrel
      by_cases hlt : k < n
      · obtain ⟨c0, c1, c2, c3⟩ := rdI_at hcells.out hb hbr.out (k := k) (by rw [markF_len]; exact hlt)
        rw [markF_get, ← hq.out] at c0 c1 c2 c3
        simp only at c0 c1 c2 c3
        have e3 : ((q + 3 : Nat) : Int) = (q : Int) + 1 + 1 + 1 := by omega
        rw [e3] at c3
        have hj0 : (0 : Int) ≤ (k : Int) := by omega
        have hjj : (k : Int) < (n : Int) := by omega
        have hq2 : q + 4 ≤ 1400 := by have := hq.out; omega
        have HQ : Hid (q + 1 + 1 + 1 + 1 = m + 4 * (k + 1)) := Lib.hid (by have := hq.out; omega)
        have q1 := str_same (a := mlT q) (b := mlT q) rfl
        have q2 := str_same (a := mlT (q + 1)) (b := mlT (q + 1)) rfl
        have q3 := str_same (a := mlT (q + 2)) (b := mlT (q + 2)) rfl
        have hbd : Hid (Below w.heap.size w wr.drew) := Lib.hid (Below.drew hbr.out)
        clear e3
        go_wp2
        go_region_held3 (fun w' => w'.cell? ⟨b, o + k * 4, none⟩ = some (.string (mlT q)) ∧ w'.cell? ⟨b, o + k * 4 + 1, none⟩ = some (.string (mlT (q + 1))) ∧ w'.cell? ⟨b, o + k * 4 + 2, none⟩ = some (.string (mlT (q + 2))) ∧ w'.cell? ⟨b, o + k * 4 + 3, none⟩ = some (.int .i64 ((q : Int) + 1 + 1 + 1)) ∧ Hid (Below w.heap.size w w'))
          (first | exact ⟨c0, c1, c2, c3, hbd⟩ | exact hS3.out)
          (first | (go_at_call 55; refine (mkl_int _ q _ rfl (by omega)).mono ?_; rintro e w3 ⟨rfl, hb3⟩; have hS3 := Lib.hid (keepF4 (W := w) (i := o + k * 4) (x0 := .string (mlT q)) (x1 := .string (mlT (q + 1))) (x2 := .string (mlT (q + 2))) (x3 := .int .i64 ((q : Int) + 1 + 1 + 1)) hb hb3 (by assumption) (by assumption) (by assumption) (by assumption) (by assumption))))
        go_split_ands
        rename Hid (Below w.heap.size w _) => hS
        have hS' := Lib.hid (Below.drew hS.out)
        go_wp2
        go_region_held3 (fun w' => w'.cell? ⟨b, o + k * 4, none⟩ = some (.string (mlT q)) ∧ w'.cell? ⟨b, o + k * 4 + 1, none⟩ = some (.string (mlT (q + 1))) ∧ w'.cell? ⟨b, o + k * 4 + 2, none⟩ = some (.string (mlT (q + 2))) ∧ w'.cell? ⟨b, o + k * 4 + 3, none⟩ = some (.int .i64 ((q : Int) + 1 + 1 + 1)) ∧ Hid (Below w.heap.size w w'))
          (first | exact ⟨by assumption, by assumption, by assumption, by assumption, hS'⟩ | exact hS5.out)
          (first | (go_at_call 55; refine (mkl_int _ (q + 1) _ (by omega) (by omega)).mono ?_; rintro e w5 ⟨rfl, hb5⟩; have hS5 := Lib.hid (keepF4 (W := w) (i := o + k * 4) (x0 := .string (mlT q)) (x1 := .string (mlT (q + 1))) (x2 := .string (mlT (q + 2))) (x3 := .int .i64 ((q : Int) + 1 + 1 + 1)) hb hb5 (by assumption) (by assumption) (by assumption) (by assumption) (by assumption))))
        go_split_ands
        rename Hid (Below w.heap.size w _) => hT
        have hT' := Lib.hid (Below.drew hT.out)
        go_wp2
        go_region_held3 (fun w' => w'.cell? ⟨b, o + k * 4, none⟩ = some (.string (mlT q)) ∧ w'.cell? ⟨b, o + k * 4 + 1, none⟩ = some (.string (mlT (q + 1))) ∧ w'.cell? ⟨b, o + k * 4 + 2, none⟩ = some (.string (mlT (q + 2))) ∧ w'.cell? ⟨b, o + k * 4 + 3, none⟩ = some (.int .i64 ((q : Int) + 1 + 1 + 1)) ∧ Hid (Below w.heap.size w w'))
          (first | exact ⟨by assumption, by assumption, by assumption, by assumption, hT'⟩ | exact hS7.out)
          (first | (go_at_call 55; refine (mkl_int _ (q + 2) _ (by omega) (by omega)).mono ?_; rintro e w7 ⟨rfl, hb7⟩; have hS7 := Lib.hid (keepF4 (W := w) (i := o + k * 4) (x0 := .string (mlT q)) (x1 := .string (mlT (q + 1))) (x2 := .string (mlT (q + 2))) (x3 := .int .i64 ((q : Int) + 1 + 1 + 1)) hb hb7 (by assumption) (by assumption) (by assumption) (by assumption) (by assumption))))
        go_split_ands
        rename Hid (Below w.heap.size w _) => hU
        go_wp2
        go_roundw
        case rel => exact ⟨k + 1, q + 1 + 1 + 1 + 1, by omega, by go_num, by go_num, hq2, HQ, hU⟩
        case measure => simp [intOf]; omega
      · have hqn : q = m + 4 * n := by have := hq.out; omega
        have hqn := Lib.hid hqn
        go_wp2
        go_ret
        exact ⟨by rw [← hqn.out]; rfl, hbr.out⟩
/-- texts that were marked -/
def markS (n m : Nat) : List ByteArray := (List.range n).map fun i => mlT (m + i)
theorem markS_len (n m : Nat) : (markS n m).length = n := by simp [markS]
theorem markS_get (n m i : Nat) (h : i < (markS n m).length) : (markS n m)[i] = mlT (m + i) := by simp [markS]
def GotMarkS (w : World) (B : Nat) (v : Value) (n m : Nat) (e : Ending) (w' : World) : Prop := e = .returned (.int .i64 ((m + n : Nat) : Int)) ∧ OwnS w' B v (markS n m) ∧ w.grownBy w' v.ownBlock
set_option maxRecDepth 100000 in
set_option maxHeartbeats 1000000 in
theorem markSs_row (v : Value) (L : List ByteArray) (m B : Nat) (w : World) (hown : OwnS w B v L) (hn : L.length ≤ 1048576) (hm : m ≤ 1000) :
    Calls Try.prog 38 #[v, .int .i64 m] w (GotMarkS w B v L.length m) := by
  rcases OwnG.form hown with ⟨rfl, rfl⟩ | ⟨g, c, rfl, hg⟩
  · go_enter Try.func38, Try.ntmps38
    go_wp2
    refine wp_loop_rounds 1 ?_
    rw [rounds_succ]; go_wp2
    go_ret
    exact ⟨rfl, hown, grown_refl _ _⟩
  · have hown := Lib.hid hown
    go_enter Try.func38, Try.ntmps38
    go_wp2
    go_loopw [1, 5] (fun t i wr => ∃ (k q : Nat) (M : List ByteArray), k ≤ L.length ∧ i = .int .i64 k ∧ t = .int .i64 q ∧ q ≤ 5000000 ∧ Hid (q = m + k) ∧ M.length = L.length ∧ Hid (M.take k = (markS L.length m).take k) ∧ Hid (OwnS wr B (.slice (some ⟨g, 0, none⟩) L.length c) M) ∧ Hid (w.grownBy wr (some g))) (fun _ i _ => L.length - (intOf i).toNat)
    case atStart => exact ⟨0, m, L, Nat.zero_le _, rfl, rfl, by omega, Lib.hid rfl, rfl, Lib.hid rfl, hown, Lib.hid (grown_refl _ _)⟩
    case round =>
      obtain ⟨k, q, M, hk, rfl, rfl, hq1, hq, hM, hp, hownr, hbr⟩ := hrel
      have hM := Lib.hid hM
      by_cases hlt : k < L.length
      · have hkM : k < M.length := by rw [hM.out]; exact hlt
        have hset := Lib.hid (set_take (L := markS L.length m) (by rw [markS_len]; exact hM.out) (by rw [markS_len]; exact hlt) hp.out (mlT q) (by rw [markS_get, hq.out]))
        have hjj : (k : Int) < (L.length : Int) := by omega
        have hq2 : q + 1 ≤ 5000000 := by have := hq.out; omega
        have HQ : Hid (q + 1 = m + (k + 1)) := Lib.hid (by have := hq.out; omega)
        obtain ⟨x, hx⟩ : ∃ x, M[k] = x := ⟨_, rfl⟩
        go_wp2_with fail
        refine (mkl_bigI _ q _ rfl (by omega)).mono ?_
        rintro e w3 ⟨rfl, hb3⟩
        have hown3 := Lib.hid (OwnG.grown hownr.out hb3)
        have hbw3 := Lib.hid (row_trans hbr.out hb3)
        obtain ⟨a0, a1, a2⟩ := OwnG.cellAt encS_len hown3.out k hkM 0 (by omega) k (by omega)
        rw [hx, show (encS x)[0]? = some (.string x) from rfl] at a0
        have S1 := Lib.hid (OwnG.store encS_len hown3.out k hkM 0 (by omega) (.string (mlT q)) (mlT q) rfl k (by omega)).1
        have G1 := Lib.hid (row_set hbw3.out (k) (.string (mlT q)))
        clear hb3 hx
        go_wp2
        go_roundw
        case rel => exact ⟨k + 1, q + 1, _, by omega, by go_num, by go_num, hq2, HQ, by rw [List.length_set]; exact hM.out, hset, S1, G1⟩
        case measure => simp [intOf]; omega
      · have HR : Hid (M = markS L.length m) := Lib.hid (by have := hp.out; rw [List.take_of_length_le (by have := hM.out; omega), List.take_of_length_le (by rw [markS_len]; omega)] at this; exact this)
        have hqn : q = m + L.length := by have := hq.out; omega
        have hqn := Lib.hid hqn
        go_wp2
        go_ret
        exact ⟨by rw [← hqn.out]; rfl, by rw [← HR.out]; exact hownr.out, hbr.out⟩
theorem keep1 {W w2 w3 : World} {b i : Nat} {x : Value} (hb : b < W.heap.size) (h : Below w2.heap.size w2 w3) (h0 : w2.cell? ⟨b, i, none⟩ = some x) (h4 : Hid (Below W.heap.size W w2)) :
    w3.cell? ⟨b, i, none⟩ = some x ∧ Hid (Below W.heap.size W w3) := by
  exact ⟨by rw [h.cell (p := ⟨b, i, none⟩) (Nat.lt_of_lt_of_le hb h4.out.size)]; exact h0, Lib.hid (below_trans' h4.out h)⟩
set_option maxRecDepth 100000 in
set_option maxHeartbeats 1000000 in
theorem heldSs_any (v : Value) (n m : Nat) (w : World) (h : RdG encS w v (markS n m)) (hn : n ≤ 100) (hm : m ≤ 1000) :
    Calls Try.prog 39 #[v, .int .i64 m] w fun e w' => e = .returned (.int .i64 ((m + n : Nat) : Int)) ∧ Below w.heap.size w w' := by
  by_cases h0 : n = 0
  · subst h0
    obtain ⟨A, c, rfl, hc⟩ := h.nil
    go_enter Try.func39, Try.ntmps39
    go_wp2
    refine wp_loop_rounds 1 ?_
    rw [rounds_succ]; go_wp2
    go_ret
    exact ⟨rfl, Below.refl _ _⟩
  · obtain ⟨b, o, c, rfl, h1, h2, hb, h4⟩ := h.some (fun e => h0 (by rw [← markS_len n m, e]; rfl))
    rw [markS_len] at h1
    rw [markS_len]
    unfold maxLen at h2
    have hcells := Lib.hid (fun k (hk : k < (markS n m).length) => rdS_cell h4 hk)
    clear h4 h h0
    go_enter Try.func39, Try.ntmps39
    go_wp2
    go_loopw [1, 5] (fun t i wr => ∃ (k q : Nat), k ≤ n ∧ i = .int .i64 k ∧ t = .int .i64 q ∧ q ≤ 1200 ∧ Hid (q = m + k) ∧ Hid (Below w.heap.size w wr)) (fun _ i _ => n - (intOf i).toNat)
    case atStart => exact ⟨0, m, Nat.zero_le _, rfl, rfl, by omega, Lib.hid rfl, Lib.hid (Below.refl _ _)⟩
    case round =>
      obtain ⟨k, q, hk, rfl, rfl, hq1, hq, hbr⟩ := hrel
      by_cases hlt : k < n
      · have c0 := rdS_at hcells.out hb hbr.out (by rw [markS_len]; exact hlt)
        rw [markS_get, ← hq.out] at c0
        have hj0 : (0 : Int) ≤ (k : Int) := by omega
        have hjj : (k : Int) < (n : Int) := by omega
        have hq2 : q + 1 ≤ 1200 := by have := hq.out; omega
        have HQ : Hid (q + 1 = m + (k + 1)) := Lib.hid (by have := hq.out; omega)
        have q1 := str_same (a := mlT q) (b := mlT q) rfl
        have hbd : Hid (Below w.heap.size w wr.drew) := Lib.hid (Below.drew hbr.out)
        go_wp2
        go_region_held3 (fun w' => w'.cell? ⟨b, o + k, none⟩ = some (.string (mlT q)) ∧ Hid (Below w.heap.size w w'))
          (first | exact ⟨c0, hbd⟩ | exact hS3.out)
          (first | (go_at_call 55; refine (mkl_int _ q _ rfl (by omega)).mono ?_; rintro e w3 ⟨rfl, hb3⟩; have hS3 := Lib.hid (keep1 (W := w) (i := o + k) (x := .string (mlT q)) hb hb3 (by assumption) (by assumption))))
        go_split_ands
        rename Hid (Below w.heap.size w _) => hS
        go_wp2
        go_roundw
        case rel => exact ⟨k + 1, q + 1, by omega, by go_num, by go_num, hq2, HQ, hS⟩
        case measure => simp [intOf]; omega
      · have hqn : q = m + n := by have := hq.out; omega
        have hqn := Lib.hid hqn
        go_wp2
        go_ret
        exact ⟨by rw [← hqn.out]; rfl, hbr.out⟩
end Go.Proofs.Ytbljpbmpfmnemaa
