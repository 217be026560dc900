/-
  The verifier's own text: InsI FdOI.
-/
import Derived.Test.YtbljpbmpfmnemaaRows
import Derived.Test.YtbljpbmpfmnemaaGt
import Derived.Test.YtbljpbmpfmnemaaGq
import Derived.Test.YtbljpbmpfmnemaaGa
import Derived.Deep.DeepCutAuto
import Derived.Test.YtbljpbmpfmnemaaGv
import Derived.WalkKit
import Derived.ProofKit
import Derived.Below
import Derived.Lib.Hide
import Derived.Outline
import Derived.BigQuiet
import Derived.Deep.QuietTactic
import Derived.Deep.Draws
import Derived.Laws.OwnMore
import Derived.Laws.Rows
import Derived.WalkSpells
import Derived.Deep.RegionWith
namespace Go.Proofs.Ytbljpbmpfmnemaa
open Go.RowKit
set_option linter.unusedVariables false
theorem rdG_nil {α : Type} {enc : α → List Value} {w : World} {A : Option Addr} {c : Nat} (hc : c ≤ maxLen) : RdG enc w (.slice A 0 c) [] := ⟨A, c, by simp, by simp, hc, .inl rfl⟩
theorem rdG_dropA {α : Type} {enc : α → List Value} {size : Nat} (he : ∀ x, (enc x).length = size) {w : World} {b o c : Nat} {L : List α} (h : RdG enc w (.slice (some ⟨b, o, none⟩) L.length c) L) (k : Nat) (hk : k ≤ L.length) (A' : Option Addr) (n' c' : Nat)
    (hA : k < L.length → A' = some ⟨b, o + k * size, none⟩) (hn' : n' = L.length - k) (hc : n' ≤ c') (hc' : c' ≤ c) : RdG enc w (.slice A' n' c') (L.drop k) := by
  by_cases hlt : k < L.length
  · rw [hA hlt]
    exact rdG_drop he h (by intro e; rw [e] at hlt; simp at hlt) k hlt _ _ _ rfl hn' hc hc'
  · have hm : c ≤ maxLen := by
      obtain ⟨A, c2, hv, _, h2, _⟩ := h
      obtain ⟨_, rfl⟩ : _ ∧ c = c2 := by simpa using hv
      exact h2
    have e : n' = 0 := by omega
    subst e
    exact rdG_none k (by omega) (by omega)
set_option maxRecDepth 100000 in
set_option maxHeartbeats 4000000 in
theorem insI_any (v : Value) (out : List It) (ky ti bo : ByteArray) (da : Int) (w : World) (h : RdG encI w v out) (h8 : out.length ≤ 1000) :
    Calls Try.prog 42 #[v, .agg #[.string ky, .string ti, .string bo, .int .i64 da]] w (GotOwnF (insF out ⟨ky, ti, bo, da⟩) w) := by
  obtain ⟨w1, hw1⟩ : ∃ w1, w.alloc (.cells #[.string ky, .string ti, .string bo, .int .i64 da] 30) = w1 := ⟨_, rfl⟩
  have hb1 : Hid (Below w.heap.size w w1) := Lib.hid (by rw [← hw1]; exact (Below.refl _ _).alloc (Nat.le_refl _) _)
  have hrow := Lib.hid (fun wX hX => row4 (wX := wX) hw1 hX)
  have hrd1 := h.below hb1.out
  by_cases hL : out = []
  · subst hL
    obtain ⟨A, c, rfl, hc⟩ := hrd1.nil
    have hF : Hid (insF [] ⟨ky, ti, bo, da⟩ = [⟨ky, ti, bo, da⟩]) := Lib.hid rfl
    have hc' := Lib.hid hc
    unfold maxLen at hc
    have hd : decide ((0 : Int) < 0) = false := rfl
    have hll0 : ([] : List It).length + ([] : List It).length ≤ 1073741824 := by simp
    have hll1 : ([] : List It).length ≤ 1073741824 := by simp
    have hll2 : ([(⟨ky, ti, bo, da⟩ : It)]).length + ([] : List It).length ≤ 1073741824 := by simp
    go_enter Try.func42, Try.ntmps42
    go_wp2_with fail
    have hw1 := Lib.hid hw1
    refine wp_loop_rounds 1 ?_
    rw [rounds_succ]
    go_wp2_with fail
    go_quiet (fail)
    rcases A with _ | ad <;> rcases Nat.eq_zero_or_pos c with hc0 | hc0
    all_goals
      (try subst hc0)
      go_wp2_with (first
        | (at_make; refine make_items rfl _ _ rfl 1 rfl rfl (by omega) ?_; intro w4 hown4 hb4; have hB4 : Hid (Below w1.heap.size w1 w4) := Lib.hid (below_trans' (below_drewN w1 _) hb4); have hown4 := Lib.hid (OwnG.base (B' := w1.heap.size) hown4 (below_drewN w1 _).size); clear hb4)
        | (at_builtin; refine app_items rfl (.tmp 25) (.tmp 28) rfl w1.heap.size _ _ ([] : List It) ([] : List It) rfl hown4.out hB4.out.size rfl (rdG_nil hc'.out) hll0 ?_; intro v5 w5 hown5 hg5; rw [List.append_nil] at hown5; have hB5 := Lib.hid (own_below hown4.out hB4.out hg5); have hown5 := Lib.hid hown5; obtain ⟨f0, f1, f2, f3⟩ := hrow.out _ hB5.out; clear hg5)
        | (at_builtin; refine app_item rfl (.tmp 30) (.tmp 32) rfl w1.heap.size _ ([] : List It) ky ti bo da rfl hown5.out hB5.out.size _ rfl rfl hll1 ?_; intro v6 w6 hown6 hg6; rw [List.nil_append] at hown6; have hB6 := Lib.hid (own_below hown5.out hB5.out hg6); have hown6 := Lib.hid hown6; clear hg6)
        | (at_builtin; refine app_items rfl (.tmp 34) (.tmp 37) rfl w1.heap.size _ _ [(⟨ky, ti, bo, da⟩ : It)] ([] : List It) rfl hown6.out hB6.out.size rfl (rdG_nil hc'.out) hll2 ?_; intro v7 w7 hown7 hg7; rw [List.append_nil] at hown7; have hB7 := Lib.hid (own_below hown6.out hB6.out hg7); have hown7 := Lib.hid hown7; clear hg7))
      go_ret
      exact ⟨v7, rfl, by rw [hF.out]; exact OwnG.base hown7.out hb1.out.size, below_trans' hb1.out hB7.out⟩
  · obtain ⟨b, o, c, rfl, h1, h2, hb, h4⟩ := hrd1.some hL
    have hrd1 := Lib.hid hrd1
    have h2' := Lib.hid h2
    unfold maxLen at h2
    have hcells := Lib.hid (fun k (hk : k < out.length) => rdI_cells h4 hk)
    clear h4 hL h
    go_enter Try.func42, Try.ntmps42
    go_wp2_with fail
    have hw1 := Lib.hid hw1
    go_loopw [5] (fun i wr => ∃ k : Nat, k ≤ out.length ∧ i = .int .i64 k ∧ Hid (∀ i (hi : i < out.length), i < k → ltI out[i] ⟨ky, ti, bo, da⟩ = true) ∧ Hid (Below w1.heap.size w1 wr)) (fun i _ => out.length - (intOf i).toNat)
    case atStart => exact ⟨0, Nat.zero_le _, rfl, Lib.hid (by intro i hi h; omega), Lib.hid (Below.refl _ _)⟩
    case round =>
      obtain ⟨k, hk, rfl, hp, hbr⟩ := hrel
      go_upto_region 2 with fail
      go_cut [18] (fun s18 wx => ∃ q : Bool, s18 = .bool q ∧ Hid (q = true → k < out.length ∧ ∀ i (hi : i < out.length), i < k + 1 → ltI out[i] ⟨ky, ti, bo, da⟩ = true) ∧ Hid (q = false → insF out ⟨ky, ti, bo, da⟩ = out.take k ++ ⟨ky, ti, bo, da⟩ :: out.drop k) ∧ Hid (Below w1.heap.size w1 wx))
      case first =>
        by_cases hlt : k < out.length
        · obtain ⟨c0, c1, c2, c3⟩ := rdI_at hcells.out hb hbr.out hlt
          obtain ⟨d0, d1, d2, d3⟩ := hrow.out _ hbr.out
          have hT : Hid (ltI out[k] ⟨ky, ti, bo, da⟩ = true → k < out.length ∧ ∀ i (hi : i < out.length), i < k + 1 → ltI out[i] ⟨ky, ti, bo, da⟩ = true) := Lib.hid (fun q => ⟨hlt, fun i hi hik => by
            by_cases e : i = k
            · subst e; exact q
            · exact hp.out i hi (by omega)⟩)
          have hF : Hid (ltI out[k] ⟨ky, ti, bo, da⟩ = false → insF out ⟨ky, ti, bo, da⟩ = out.take k ++ ⟨ky, ti, bo, da⟩ :: out.drop k) := Lib.hid (fun q => insF_at hk hp.out (fun _ => q))
          obtain ⟨e, he⟩ : ∃ e, out[k] = e := ⟨_, rfl⟩
          rw [he] at c0 c1 c2 c3 hT hF
          obtain ⟨x0, x1, x2, x3⟩ := e
          simp only at c0 c1 c2 c3
          have hjj : (k : Int) < (out.length : Int) := by omega
          have hj0 : (0 : Int) ≤ (k : Int) := by omega
          clear he
          go_region_with (go_at_call 59; refine (ltI_any _ _ _ _ _ _ _ _ _).mono ?_; rintro e w3 ⟨rfl, hb3⟩; have hB3 : Hid (Below w1.heap.size w1 w3) := Lib.hid (below_trans' (Below.drew hbr.out) hb3))
          all_goals (go_wp2_with fail; go_meet; exact ⟨_, rfl, hT, hF, hB3⟩)
        · have hF : Hid (false = false → insF out ⟨ky, ti, bo, da⟩ = out.take k ++ ⟨ky, ti, bo, da⟩ :: out.drop k) := Lib.hid (fun _ => insF_at hk hp.out (fun q => absurd q hlt))
          have hd : decide ((k : Int) < (out.length : Int)) = false := decide_eq_false (by omega)
          go_quiet (fail)
          go_wp2
          go_meet
          exact ⟨false, rfl, Lib.hid (by intro q; cases q), Lib.hid (fun _ => by simpa using hF.out), Lib.hid (Below.drawn hbr.out _)⟩
      case rest =>
        obtain ⟨q, rfl, hT, hF, hBc⟩ := hcut
        cases q with
        | true =>
          obtain ⟨hlt, hT⟩ := hT.out rfl
          have hT := Lib.hid hT
          go_wp2
          go_roundw
          case rel => exact ⟨k + 1, by omega, by go_num, hT, hBc⟩
          case measure => simp [intOf]; omega
        | false =>
          have hFF : Hid (insF out ⟨ky, ti, bo, da⟩ = out.take k ++ ⟨ky, ti, bo, da⟩ :: out.drop k) := Lib.hid (hF.out (by trivial))
          clear hF hT
          have hll0 : ([] : List It).length + (out.take k).length ≤ 1073741824 := by simp; omega
          have hll1 : (out.take k).length ≤ 1073741824 := by simp; omega
          have hll2 : (out.take k ++ [(⟨ky, ti, bo, da⟩ : It)]).length + (out.drop k).length ≤ 1073741824 := by simp; omega
          have hkc : k ≤ c := by omega
          have hj0 : (0 : Int) ≤ (k : Int) := by omega
          have hjc : (k : Int) ≤ (c : Int) := by omega
          have hjl : (k : Int) ≤ (out.length : Int) := by omega
          have hsc := hBc.out.size
          by_cases hck : c = k
          · obtain rfl : k = out.length := by omega
            subst hck
            go_wp2_with (first
              | (at_make; refine make_items rfl _ _ rfl (out.length + 1) rfl rfl (by omega) ?_; intro w4 hown4 hb4; have hB4 := Lib.hid (below_trans' hBc.out hb4); have hr4 := Lib.hid (hrd1.out.below hB4.out); have hown4 := Lib.hid (OwnG.base hown4 hsc); clear hb4)
              | (at_builtin; refine app_items rfl (.tmp 25) (.tmp 28) rfl w1.heap.size _ _ [] (out.take out.length) rfl hown4.out hB4.out.size rfl (rdG_take encI_len hr4.out out.length hk out.length hkc h2'.out) hll0 ?_; intro v5 w5 hown5 hg5; rw [List.nil_append] at hown5; have hB5 := Lib.hid (own_below hown4.out hB4.out hg5); have hown5 := Lib.hid hown5; obtain ⟨f0, f1, f2, f3⟩ := hrow.out _ hB5.out; clear hg5)
              | (at_builtin; refine app_item rfl (.tmp 30) (.tmp 32) rfl w1.heap.size _ (out.take out.length) ky ti bo da rfl hown5.out hB5.out.size _ rfl rfl hll1 ?_; intro v6 w6 hown6 hg6; have hB6 := Lib.hid (own_below hown5.out hB5.out hg6); have hr6 := Lib.hid (hrd1.out.below hB6.out); have hown6 := Lib.hid hown6; clear hg6)
              | (at_builtin; refine app_items rfl (.tmp 34) (.tmp 37) rfl w1.heap.size _ _ (out.take out.length ++ [(⟨ky, ti, bo, da⟩ : It)]) (out.drop out.length) rfl hown6.out hB6.out.size rfl (rdG_dropA encI_len hr6.out out.length hk _ _ _ (by first | exact fun _ => rfl | (intro q; omega)) (by omega) (by omega) (by omega)) hll2 ?_; intro v7 w7 hown7 hg7; have hB7 := Lib.hid (own_below hown6.out hB6.out hg7); have hown7 := Lib.hid hown7; clear hg7))
            go_ret
            exact ⟨v7, rfl, by rw [hFF.out]; have h7 := OwnG.base hown7.out hb1.out.size; rw [List.append_assoc] at h7; exact h7, below_trans' hb1.out hB7.out⟩
          · have hck1 : ¬ (c - k = 0) := by omega
            have hck2 : k < c := by omega
            go_wp2_with (first
              | (at_make; refine make_items rfl _ _ rfl (out.length + 1) rfl rfl (by omega) ?_; intro w4 hown4 hb4; have hB4 := Lib.hid (below_trans' hBc.out hb4); have hr4 := Lib.hid (hrd1.out.below hB4.out); have hown4 := Lib.hid (OwnG.base hown4 hsc); clear hb4)
              | (at_builtin; refine app_items rfl (.tmp 25) (.tmp 28) rfl w1.heap.size _ _ [] (out.take k) rfl hown4.out hB4.out.size rfl (rdG_take encI_len hr4.out k hk c hkc h2'.out) hll0 ?_; intro v5 w5 hown5 hg5; rw [List.nil_append] at hown5; have hB5 := Lib.hid (own_below hown4.out hB4.out hg5); have hown5 := Lib.hid hown5; obtain ⟨f0, f1, f2, f3⟩ := hrow.out _ hB5.out; clear hg5)
              | (at_builtin; refine app_item rfl (.tmp 30) (.tmp 32) rfl w1.heap.size _ (out.take k) ky ti bo da rfl hown5.out hB5.out.size _ rfl rfl hll1 ?_; intro v6 w6 hown6 hg6; have hB6 := Lib.hid (own_below hown5.out hB5.out hg6); have hr6 := Lib.hid (hrd1.out.below hB6.out); have hown6 := Lib.hid hown6; clear hg6)
              | (at_builtin; refine app_items rfl (.tmp 34) (.tmp 37) rfl w1.heap.size _ _ (out.take k ++ [(⟨ky, ti, bo, da⟩ : It)]) (out.drop k) rfl hown6.out hB6.out.size rfl (rdG_dropA encI_len hr6.out k hk _ _ _ (by first | exact fun _ => rfl | (intro q; omega)) (by omega) (by omega) (by omega)) hll2 ?_; intro v7 w7 hown7 hg7; have hB7 := Lib.hid (own_below hown6.out hB6.out hg7); have hown7 := Lib.hid hown7; clear hg7))
            go_ret
            exact ⟨v7, rfl, by rw [hFF.out]; have h7 := OwnG.base hown7.out hb1.out.size; rw [List.append_assoc] at h7; exact h7, below_trans' hb1.out hB7.out⟩
theorem insF_fit {out : List It} {x : It} (h : FitF out) (h' : FitI x) : FitF (insF out x) := fun y m => by
  rcases insF_mem.1 m with rfl | m
  · exact h'
  · exact h y m
set_option maxRecDepth 100000 in
set_option maxHeartbeats 4000000 in
theorem fdI_sort (v : Value) (L : List It) (w : World) (h : RdG encI w v L) (hf : FitF L) :
    Calls Try.prog 13 #[v] w (GotOwnF (fdO L) w) := by
  have hv := Lib.hid (fdI_valid v L w h hf)
  rcases hB : fdB L with _ | _
  · have HB := Lib.hid hB
    have HR := Lib.hid (fdO_out hB)
    clear hB
    go_enter Try.func13, Try.ntmps13
    go_wp2_with (go_at_call 16; refine hv.out.mono ?_; rintro e w1 ⟨rfl, hb1⟩; rw [HB.out])
    go_ret
    exact ⟨_, rfl, by rw [HR.out]; exact ownG_nil _ _ _ _ _, hb1⟩
  · have HB := Lib.hid hB
    have HX := Lib.hid (fdO_in hB)
    have h8 := (fdB_of hB).1
    clear hB
    by_cases hL : L = []
    · subst hL
      obtain ⟨A, c, rfl, hc⟩ := h.nil
      go_enter Try.func13, Try.ntmps13
      go_wp2_with (first | (go_at_call 16; refine hv.out.mono ?_; rintro e w1 ⟨rfl, hb1⟩; rw [HB.out]) | (at_make; refine make_items rfl _ _ rfl 0 rfl rfl (by omega) ?_; intro w2 hown0 hb0))
      refine wp_loop_rounds 1 ?_
      rw [rounds_succ]; go_wp2
      go_ret
      exact ⟨_, rfl, OwnG.base hown0 hb1.size, below_trans' hb1 hb0⟩
    · obtain ⟨b, o, c, rfl, h1, h2, hb, h4⟩ := h.some hL
      unfold maxLen at h2
      have hcells := Lib.hid (fun k (hk : k < L.length) => rdI_cells h4 hk)
      clear h4 hL h
      go_enter Try.func13, Try.ntmps13
      go_wp2_with (first | (go_at_call 16; refine hv.out.mono ?_; rintro e w1 ⟨rfl, hb1⟩; rw [HB.out]) | (at_make; refine make_items rfl _ _ rfl L.length rfl rfl (by omega) ?_; intro w2 hown0 hb0))
      have hb2 := Lib.hid (below_trans' hb1 hb0)
      have hown2 := Lib.hid (OwnG.base hown0 hb1.size)
      clear hb1 hb0 hown0
      go_loopw [3, 14] (fun x i wr => ∃ (k : Nat) (y : Value), k ≤ L.length ∧ i = .int .i64 k ∧ y = x ∧ Hid (OwnF wr w.heap.size y (srtF (L.take k))) ∧ Hid (Below w.heap.size w wr)) (fun _ i _ => L.length - (intOf i).toNat)
      case atStart => exact ⟨0, _, Nat.zero_le _, rfl, rfl, hown2, hb2⟩
      case round =>
        obtain ⟨k, y, hk, rfl, rfl, hown, hbr⟩ := hrel
        by_cases hlt : k < L.length
        · obtain ⟨c0, c1, c2, c3⟩ := rdI_at hcells.out hb hbr.out hlt
          have hmt := Lib.hid (srtF_next hlt)
          obtain ⟨e, he⟩ : ∃ e, L[k] = e := ⟨_, rfl⟩
          rw [he] at c0 c1 c2 c3 hmt
          obtain ⟨ky, ti, bo, da⟩ := e
          simp only at c0 c1 c2 c3
          have hj0 : (0 : Int) ≤ (k : Int) := by omega
          have hjj : (k : Int) < (L.length : Int) := by omega
          have hll : (srtF (L.take k)).length ≤ 1000 := by rw [srtF_len, List.length_take]; omega
          obtain ⟨w3, hw3⟩ : ∃ w3, wr.alloc (.cells #[.string ky, .string ti, .string bo, .int .i64 da] 30) = w3 := ⟨_, rfl⟩
          have hB3 : Hid (Below w.heap.size w w3) := Lib.hid (by rw [← hw3]; exact hbr.out.alloc hbr.out.size _)
          have hrd3 : RdG encI w3 y (srtF (L.take k)) := by rw [← hw3]; exact (OwnG.rd hown.out).below ((Below.refl _ _).alloc (Nat.le_refl _) _)
          obtain ⟨d0, d1, d2, d3⟩ := row4 hw3 (Below.refl _ _)
          clear he
          go_wp2_with fail
          refine (insI_any y _ ky ti bo da _ hrd3 hll).mono ?_
          rintro e w5 ⟨v5, rfl, hown5, hb5⟩
          have hown5 := Lib.hid (OwnG.base hown5 hB3.out.size)
          have hB5 := Lib.hid (below_trans' hB3.out hb5)
          clear hb5
          go_wp2
          go_roundw
          case rel => exact ⟨k + 1, _, by omega, by go_num, rfl, by rw [hmt.out]; exact hown5, hB5⟩
          case measure => simp [intOf]; omega
        · have HR : Hid (fdO L = srtF (L.take k)) := Lib.hid (by rw [HX.out, List.take_of_length_le (by omega)])
          go_wp2
          go_ret
          exact ⟨_, rfl, by rw [HR.out]; exact hown.out, hbr.out⟩
end Go.Proofs.Ytbljpbmpfmnemaa
