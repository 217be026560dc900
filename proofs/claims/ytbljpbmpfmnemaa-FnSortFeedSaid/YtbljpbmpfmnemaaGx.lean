/-
  The verifier's own text: FdRS FdOS.
-/
import Derived.Test.YtbljpbmpfmnemaaRows
import Derived.Test.YtbljpbmpfmnemaaGt
import Derived.Test.YtbljpbmpfmnemaaGo
import Derived.Deep.DeepCutAuto
import Derived.Test.YtbljpbmpfmnemaaGq
import Derived.Test.YtbljpbmpfmnemaaGw
import Derived.Test.YtbljpbmpfmnemaaGr
import Derived.Deep.RegionHeld3
import Derived.WalkKit
import Derived.ProofKit
import Derived.Below
import Derived.Lib.Hide
import Derived.Outline
import Derived.BigQuiet
import Derived.Deep.QuietTactic
import Derived.Deep.Draws
import Derived.Laws.OwnMore
import Derived.Laws.Rows
import Derived.WalkSpells
import Derived.Deep.RegionWith
namespace Go.Proofs.Ytbljpbmpfmnemaa
open Go.RowKit
set_option linter.unusedVariables false
/-- whether an item's key is there -/
def it_in (i : It) (L : List It) : Bool := L.any fun x => decide (x.key = i.key)
theorem it_in_iff (i : It) (L : List It) : it_in i L = true ↔ i.key ∈ L.map It.key := by
  unfold it_in
  rw [List.any_eq_true, List.mem_map]
  constructor
  · rintro ⟨x, m, h⟩; exact ⟨x, m, of_decide_eq_true h⟩
  · rintro ⟨x, m, h⟩; exact ⟨x, m, decide_eq_true h⟩
theorem it_in_next (i : It) {L : List It} {k : Nat} (h : k < L.length) : it_in i (L.take (k + 1)) = (it_in i (L.take k) || decide (L[k].key = i.key)) := by
  unfold it_in
  rw [List.take_succ_eq_append_getElem h, List.any_append]; simp
set_option maxRecDepth 100000 in
set_option maxHeartbeats 8000000 in
theorem fdS_sort (v : Value) (L : List It) (w : World) (h : RdG encI w v L) (hf : FitF L) :
    Calls Try.prog 15 #[v] w (GotOwnF (fdO L) w) := by
  have hown0 := Lib.hid (own_none w w.heap.size (Nat.le_refl _))
  have hb0 : Hid (Below w.heap.size w (w.alloc (.cells #[] 30))) := Lib.hid ((Below.refl _ _).alloc (Nat.le_refl _) _)
  by_cases hL : L = []
  · subst hL
    obtain ⟨A, c, rfl, hc⟩ := h.nil
    go_enter Try.func15, Try.ntmps15
    go_wp2
    refine wp_loop_rounds 1 ?_
    rw [rounds_succ]; go_wp2
    go_ret
    exact ⟨_, rfl, by unfold fdO; split <;> exact hown0.out, hb0.out⟩
  · have hpos : 0 < L.length := List.length_pos_iff.2 hL
    have hrd := Lib.hid h
    obtain ⟨b, o, c, rfl, h1, h2, hb, h4⟩ := h.some hL
    unfold maxLen at h2
    have hcells := Lib.hid (fun k (hk : k < L.length) => rdI_cells h4 hk)
    clear h4 hL h
    go_enter Try.func15, Try.ntmps15
    go_wp2
    go_loopw [3, 4] (fun x i wr => ∃ (k g cap : Nat) (y : Value), k ≤ L.length ∧ i = .int .i64 k ∧ y = x ∧ y = .slice (some ⟨g, 0, none⟩) (srtF (L.take k)).length cap ∧ Hid (k = 0 ∨ fdB L = true) ∧ Hid (OwnF wr w.heap.size y (srtF (L.take k))) ∧ Hid (Below w.heap.size w wr)) (fun _ i _ => L.length - (intOf i).toNat)
    case atStart => exact ⟨0, w.heap.size, 0, _, Nat.zero_le _, rfl, rfl, rfl, Lib.hid (.inl rfl), hown0, hb0⟩
    case round =>
      obtain ⟨k, g, cap, y, hk, rfl, rfl, rfl, hp, hown, hbr⟩ := hrel
      by_cases hlt : k < L.length
      · have hrdr := hrd.out.below hbr.out
        have hj0 : (0 : Int) ≤ (k : Int) := by omega
        have hjj : (k : Int) < (L.length : Int) := by omega
        go_wp2_with fail
        refine (fdS_valid _ L _ hrdr hf).mono ?_
        rintro e w3 ⟨rfl, hb3⟩
        have hB3 := Lib.hid (below_trans' hbr.out hb3)
        have hown3 := Lib.hid (OwnG.grown hown.out hb3)
        clear hb3 hrdr
        rcases hF : fdB L with _ | _
        · have hk0 : k = 0 := by
            rcases hp.out with h | h
            · exact h
            · rw [hF] at h; cases h
          have HR : Hid (fdO L = srtF (L.take k)) := Lib.hid (by rw [fdO_out hF, hk0]; rfl)
          clear hF hk0
          go_wp2
          go_ret
          exact ⟨_, rfl, by rw [HR.out]; exact hown3.out, hB3.out⟩
        · have hnd := (fdB_of hF).2.2
          have h8 := (fdB_of hF).1
          have hsrt := Lib.hid (srtF_sorted hnd k hk)
          have hkey := Lib.hid (fun y (m : y ∈ srtF (L.take k)) => key_ne hnd hlt y (srtF_mem.1 m))
          have hmt := Lib.hid (srtF_next hlt)
          have hlen : (srtF (L.take k)).length ≤ 8 := by rw [srtF_len, List.length_take]; omega
          have HF := Lib.hid hF
          have hrwL := Lib.hid (fun wX (hX : Below w.heap.size w wX) => rdI_at hcells.out hb hX hlt)
          obtain ⟨e, he⟩ : ∃ e, L[k] = e := ⟨_, rfl⟩
          rw [he] at hkey hmt hrwL
          obtain ⟨out, ho⟩ : ∃ out, srtF (L.take k) = out := ⟨_, rfl⟩
          rw [ho] at hsrt hkey hmt hlen hown3 ⊢
          clear hown hF hnd he ho hp
          obtain ⟨ky, ti, bo, da⟩ := e
          simp only at hrwL
          have hrd3 := Lib.hid (OwnG.rd hown3.out)
          have hcap : out.length ≤ cap ∧ cap ≤ maxLen := by
            obtain ⟨A, c', hv, q1, q2, _⟩ := hrd3.out
            obtain ⟨_, rfl⟩ : _ ∧ cap = c' := by simpa using hv
            exact ⟨q1, q2⟩
          obtain ⟨hcap, hcapm⟩ := hcap
          have hcapm := Lib.hid hcapm
          go_wp2
          go_loopw [5] (fun i wr => ∃ p : Nat, p ≤ out.length ∧ i = .int .i64 p ∧ Hid (∀ i (hi : i < out.length), p ≤ i → ltI ⟨ky, ti, bo, da⟩ out[i] = true) ∧ Hid (Below w3.heap.size w3 wr)) (fun i _ => (intOf i).toNat)
          case atStart => exact ⟨out.length, Nat.le_refl _, rfl, Lib.hid (by intro i hi h; omega), Lib.hid (Below.refl _ _)⟩
          case round =>
            obtain ⟨p, hpl, rfl, hpp, hbi⟩ := hrel
            go_upto_region 6 with fail
            go_cut [32] (fun s32 wx => ∃ q : Bool, s32 = .bool q ∧ Hid (q = true → 0 < p ∧ ∀ i (hi : i < out.length), p - 1 ≤ i → ltI ⟨ky, ti, bo, da⟩ out[i] = true) ∧ Hid (q = false → insF out ⟨ky, ti, bo, da⟩ = out.take p ++ ⟨ky, ti, bo, da⟩ :: out.drop p) ∧ Hid (Below w3.heap.size w3 wx))
            case first =>
              by_cases hp0 : 0 < p
              · obtain ⟨m, rfl⟩ : ∃ m, p = m + 1 := ⟨p - 1, by omega⟩
                have hml : m < out.length := by omega
                have hBi := Lib.hid (below_trans' hB3.out hbi.out)
                obtain ⟨c0, c1, c2, c3⟩ := hrwL.out _ hBi.out
                obtain ⟨b2, o2, cc, hv, _, _, hb2, h42⟩ := hrd3.out.some (by intro e; rw [e] at hml; simp at hml)
                obtain ⟨⟨rfl, rfl⟩, rfl⟩ : (g = b2 ∧ 0 = o2) ∧ cap = cc := by simpa using hv
                obtain ⟨f0, f1, f2, f3⟩ := rdI_at (fun k hk => rdI_cells h42 hk) hb2 hbi.out hml
                have hT : Hid (ltI ⟨ky, ti, bo, da⟩ out[m] = true → 0 < m + 1 ∧ ∀ i (hi : i < out.length), m + 1 - 1 ≤ i → ltI ⟨ky, ti, bo, da⟩ out[i] = true) := Lib.hid (fun q => ⟨by omega, fun i hi hik => by
                  by_cases e : i = m
                  · subst e; exact q
                  · exact hpp.out i hi (by omega)⟩)
                have hN : Hid (ltI ⟨ky, ti, bo, da⟩ out[m] = false → insF out ⟨ky, ti, bo, da⟩ = out.take (m + 1) ++ ⟨ky, ti, bo, da⟩ :: out.drop (m + 1)) := Lib.hid (fun q => insF_back hsrt.out hkey.out hpl hpp.out (fun _ _ => q))
                obtain ⟨e, he⟩ : ∃ e, out[m] = e := ⟨_, rfl⟩
                rw [he] at f0 f1 f2 f3 hT hN
                obtain ⟨x0, x1, x2, x3⟩ := e
                simp only at f0 f1 f2 f3
                rw [Nat.zero_add] at f0 f1 f2 f3
                have hm0 : (0 : Int) < (m : Int) + 1 := by omega
                have hd : decide ((0 : Int) < (m : Int) + 1) = true := decide_eq_true hm0
                have hm1 : (m : Int) + 1 - 1 = (m : Int) := by omega
                have hm2 : (0 : Int) ≤ (m : Int) := by omega
                have hi1 := IntWalk.i64_in (m : Int) (by omega)
                have hi2 := IntWalk.i64_in ((m : Int) + 1 - 1) (by omega)
                have hi3 := IntWalk.i64_in (((m + 1 : Nat) : Int) - 1) (by omega)
                have hm3 : (m : Int) < (out.length : Int) := by omega
                clear he h42 hv
                have hbd : Hid (Below w3.heap.size w3 wr.drew) := Lib.hid (Below.drew hbi.out)
                have hb3 := Nat.lt_of_lt_of_le hb hB3.out.size
                go_region_held3 (fun w' => w'.cell? ⟨b, o + k * 4, none⟩ = some (.string ky) ∧ w'.cell? ⟨b, o + k * 4 + 1, none⟩ = some (.string ti) ∧ w'.cell? ⟨b, o + k * 4 + 2, none⟩ = some (.string bo) ∧ w'.cell? ⟨b, o + k * 4 + 3, none⟩ = some (.int .i64 da) ∧
                    w'.cell? ⟨g, m * 4, none⟩ = some (.string x0) ∧ w'.cell? ⟨g, m * 4 + 1, none⟩ = some (.string x1) ∧ w'.cell? ⟨g, m * 4 + 2, none⟩ = some (.string x2) ∧ w'.cell? ⟨g, m * 4 + 3, none⟩ = some (.int .i64 x3) ∧ Hid (Below w3.heap.size w3 w'))
                  (first | exact ⟨c0, c1, c2, c3, f0, f1, f2, f3, hbd⟩ | exact hS5.out)
                  (first | (go_at_call 44; refine (ltS_any _ _ _ _ _ _ _ _ _).mono ?_; rintro e w5 ⟨rfl, hb5⟩; have hS5 := Lib.hid (keep8 (W := w3) (w2 := wr.drew) (b := b) (b' := g) (i := o + k * 4) (i' := m * 4) (x0 := .string ky) (x1 := .string ti) (x2 := .string bo) (x3 := .int .i64 da) (y0 := .string x0) (y1 := .string x1) (y2 := .string x2) (y3 := .int .i64 x3) hb3 hb2 hb5 c0 c1 c2 c3 f0 f1 f2 f3 hbd)))
                go_split_ands
                rename Hid (Below w3.heap.size w3 _) => hB5
                go_wp2_with fail
                go_meet
                exact ⟨_, rfl, hT, hN, hB5⟩
              · have hN : Hid (insF out ⟨ky, ti, bo, da⟩ = out.take p ++ ⟨ky, ti, bo, da⟩ :: out.drop p) := Lib.hid (insF_back hsrt.out hkey.out hpl hpp.out (fun h _ => absurd h hp0))
                have hd : decide ((0 : Int) < (p : Int)) = false := decide_eq_false (by omega)
                go_quiet (fail)
                go_wp2
                go_meet
                exact ⟨false, rfl, Lib.hid (by intro q; cases q), Lib.hid (fun _ => hN.out), Lib.hid (Below.drawn hbi.out _)⟩
            case rest =>
              obtain ⟨q, rfl, hT, hN, hBc⟩ := hcut
              cases q with
              | true =>
                obtain ⟨hp0, hT⟩ := hT.out rfl
                obtain ⟨m, rfl⟩ : ∃ m, p = m + 1 := ⟨p - 1, by omega⟩
                have hT := Lib.hid hT
                go_wp2
                go_roundw
                case rel => exact ⟨m, by omega, by go_num, Lib.hid (fun i hi hik => hT.out i hi (by omega)), hBc⟩
                case measure => (simp [intOf] <;> omega)
              | false =>
                have hNN : Hid (insF out ⟨ky, ti, bo, da⟩ = out.take p ++ ⟨ky, ti, bo, da⟩ :: out.drop p) := Lib.hid (hN.out rfl)
                clear hN hT
                have hBw := Lib.hid (below_trans' hB3.out hBc.out)
                have hownc := Lib.hid (OwnG.grown hown3.out hBc.out)
                have hrdc := Lib.hid (OwnG.rd hownc.out)
                have hll0 : ([] : List It).length + (out.take p).length ≤ 1073741824 := by simp; omega
                have hll1 : (out.take p).length + [(⟨ky, ti, bo, da⟩ : It)].length ≤ 1073741824 := by simp; omega
                have hll2 : (out.take p ++ [(⟨ky, ti, bo, da⟩ : It)]).length + (out.drop p).length ≤ 1073741824 := by simp; omega
                have hkc : p ≤ cap := by omega
                have hp0 : (0 : Int) ≤ (p : Int) := by omega
                have hpc : (p : Int) ≤ (cap : Int) := by omega
                have hpl' : (p : Int) ≤ (out.length : Int) := by omega
                have hscap := Lib.hid (Nat.zero_lt_of_lt hlt)
                obtain ⟨c0, c1, c2, c3⟩ := hrwL.out _ hBw.out
                obtain ⟨wq, hwq⟩ : ∃ wq, wq = wc := ⟨_, rfl⟩
                rw [← hwq] at hBc hBw hownc hrdc c0 c1 c2 c3 ⊢
                clear hwq
                have hbq := Nat.lt_of_lt_of_le hb hBw.out.size
                have hbn1 : ¬ (b = wq.heap.size) := by omega
                have hbn2 : ¬ (b = wq.heap.size + 1) := by omega
                go_upto_region 8 with fail
                by_cases hck : cap = p
                · obtain rfl : p = out.length := by omega
                  subst hck
                  go_region_law (first
                    | (refine step_item rfl (.tmp 35) (.tmp 38) rfl wq.heap.size _ _ [] (out.take out.length) rfl (by first | exact own_a wq _ (Nat.le_refl _) | exact own_b wq _ (Nat.le_refl _) _ | exact own_c wq _ (Nat.le_refl _) _) (by simp <;> omega) rfl (by first | exact (rdG_take encI_len hrdc.out out.length hpl out.length hkc hcapm.out).below (bel_1 wq _) | exact (rdG_take encI_len hrdc.out out.length hpl out.length hkc hcapm.out).below (bel_2 wq _ _)) hll0 ?_; intro v7 w7 hown7 hg7; rw [List.nil_append] at hown7; (first | (have hg7 : World.grownBy _ w7 (some wq.heap.size) := hg7) | (have hg7 : World.grownBy _ w7 (some (wq.heap.size + 1)) := hg7)); have hB7 : Hid (Below wq.heap.size wq w7) := Lib.hid (by first | exact (bel_1 wq _).grown hg7 (by simp) (fun q hq => by cases hq; omega) | exact (bel_2 wq _ _).grown hg7 (by simp <;> omega) (fun q hq => by cases hq; omega)); obtain ⟨e0, e1, e2, e3⟩ := hrwL.out w7 (below_trans' hBw.out hB7.out); (first | (have hL7 := rd_kept (lit_b wq _ ky ti bo da) hg7 (by omega)) | (have hL7 := rd_kept (lit_c wq _ ky ti bo da) hg7 (by omega)) | skip); clear hg7; have hown7 := Lib.hid hown7)
                    | (refine step_item rfl (.tmp 39) (.tmp 44) rfl wq.heap.size _ _ (out.take out.length) [(⟨ky, ti, bo, da⟩ : It)] rfl (by first | exact hown7.out | exact OwnG.grown hown7.out ((Below.refl _ _).alloc (Nat.le_refl _) _)) (by first | exact hB7.out.size | exact Nat.le_trans hB7.out.size (by simp)) rfl (by first | exact hL7 | exact rd_lit1 w7 ⟨ky, ti, bo, da⟩ _) hll1 ?_; intro v8 w8 hown8 hg8; have hB8 : Hid (Below wq.heap.size wq w8) := Lib.hid (by first | exact own_below hown7.out hB7.out hg8 | exact own_below (OwnG.grown hown7.out ((Below.refl _ _).alloc (Nat.le_refl _) _)) (hB7.out.alloc hB7.out.size _) hg8); have hr8 := Lib.hid (hrdc.out.below hB8.out); clear hg8; have hown8 := Lib.hid hown8)
                    | (refine step_item rfl (.tmp 45) (.tmp 48) rfl wq.heap.size _ _ (out.take out.length ++ [(⟨ky, ti, bo, da⟩ : It)]) (out.drop out.length) rfl hown8.out hB8.out.size rfl (rdG_dropA encI_len hr8.out out.length hpl _ _ _ (by first | exact fun _ => rfl | (intro q; omega) | (intro q; simp)) (by omega) (by omega) (by omega)) hll2 ?_; intro v9 w9 hown9 hg9; have hB9 : Hid (Below wq.heap.size wq w9) := Lib.hid (own_below hown8.out hB8.out hg9); have hown9 := Lib.hid hown9; clear hg9))
                  all_goals
                    have HR : Hid (OwnF w9 w.heap.size v9 (srtF (L.take (k + 1)))) := Lib.hid (by rw [hmt.out, hNN.out]; have h9 := OwnG.base hown9.out hBw.out.size; rw [List.append_assoc] at h9; exact h9)
                    have hBE := Lib.hid (below_trans' hBw.out hB9.out)
                    obtain ⟨g9, cap9, hv9⟩ : ∃ g9 cap9, v9 = .slice (some ⟨g9, 0, none⟩) (srtF (L.take (k + 1))).length cap9 := by
                      rcases OwnG.form HR.out with ⟨_, q⟩ | ⟨g', c', q, _⟩
                      · have := congrArg List.length q; rw [hmt.out, insF_len] at this; simp at this
                      · exact ⟨g', c', q⟩
                    subst hv9
                    go_wp2_with fail
                    go_roundw
                    case rel => exact ⟨k + 1, g9, cap9, _, by omega, by go_num, rfl, rfl, Lib.hid (.inr HF.out), HR, hBE⟩
                    case measure => (simp [intOf] <;> omega)
                · have hck1 : ¬ (cap - p = 0) := by omega
                  have hck2 : p < cap := by omega
                  go_region_law (first
                    | (refine step_item rfl (.tmp 35) (.tmp 38) rfl wq.heap.size _ _ [] (out.take p) rfl (by first | exact own_a wq _ (Nat.le_refl _) | exact own_b wq _ (Nat.le_refl _) _ | exact own_c wq _ (Nat.le_refl _) _) (by simp <;> omega) rfl (by first | exact (rdG_take encI_len hrdc.out p hpl cap hkc hcapm.out).below (bel_1 wq _) | exact (rdG_take encI_len hrdc.out p hpl cap hkc hcapm.out).below (bel_2 wq _ _)) hll0 ?_; intro v7 w7 hown7 hg7; rw [List.nil_append] at hown7; (first | (have hg7 : World.grownBy _ w7 (some wq.heap.size) := hg7) | (have hg7 : World.grownBy _ w7 (some (wq.heap.size + 1)) := hg7)); have hB7 : Hid (Below wq.heap.size wq w7) := Lib.hid (by first | exact (bel_1 wq _).grown hg7 (by simp) (fun q hq => by cases hq; omega) | exact (bel_2 wq _ _).grown hg7 (by simp <;> omega) (fun q hq => by cases hq; omega)); obtain ⟨e0, e1, e2, e3⟩ := hrwL.out w7 (below_trans' hBw.out hB7.out); (first | (have hL7 := rd_kept (lit_b wq _ ky ti bo da) hg7 (by omega)) | (have hL7 := rd_kept (lit_c wq _ ky ti bo da) hg7 (by omega)) | skip); clear hg7; have hown7 := Lib.hid hown7)
                    | (refine step_item rfl (.tmp 39) (.tmp 44) rfl wq.heap.size _ _ (out.take p) [(⟨ky, ti, bo, da⟩ : It)] rfl (by first | exact hown7.out | exact OwnG.grown hown7.out ((Below.refl _ _).alloc (Nat.le_refl _) _)) (by first | exact hB7.out.size | exact Nat.le_trans hB7.out.size (by simp)) rfl (by first | exact hL7 | exact rd_lit1 w7 ⟨ky, ti, bo, da⟩ _) hll1 ?_; intro v8 w8 hown8 hg8; have hB8 : Hid (Below wq.heap.size wq w8) := Lib.hid (by first | exact own_below hown7.out hB7.out hg8 | exact own_below (OwnG.grown hown7.out ((Below.refl _ _).alloc (Nat.le_refl _) _)) (hB7.out.alloc hB7.out.size _) hg8); have hr8 := Lib.hid (hrdc.out.below hB8.out); clear hg8; have hown8 := Lib.hid hown8)
                    | (refine step_item rfl (.tmp 45) (.tmp 48) rfl wq.heap.size _ _ (out.take p ++ [(⟨ky, ti, bo, da⟩ : It)]) (out.drop p) rfl hown8.out hB8.out.size rfl (rdG_dropA encI_len hr8.out p hpl _ _ _ (by first | exact fun _ => rfl | (intro q; omega) | (intro q; simp)) (by omega) (by omega) (by omega)) hll2 ?_; intro v9 w9 hown9 hg9; have hB9 : Hid (Below wq.heap.size wq w9) := Lib.hid (own_below hown8.out hB8.out hg9); have hown9 := Lib.hid hown9; clear hg9))
                  all_goals
                    have HR : Hid (OwnF w9 w.heap.size v9 (srtF (L.take (k + 1)))) := Lib.hid (by rw [hmt.out, hNN.out]; have h9 := OwnG.base hown9.out hBw.out.size; rw [List.append_assoc] at h9; exact h9)
                    have hBE := Lib.hid (below_trans' hBw.out hB9.out)
                    obtain ⟨g9, cap9, hv9⟩ : ∃ g9 cap9, v9 = .slice (some ⟨g9, 0, none⟩) (srtF (L.take (k + 1))).length cap9 := by
                      rcases OwnG.form HR.out with ⟨_, q⟩ | ⟨g', c', q, _⟩
                      · have := congrArg List.length q; rw [hmt.out, insF_len] at this; simp at this
                      · exact ⟨g', c', q⟩
                    subst hv9
                    go_wp2_with fail
                    go_roundw
                    case rel => exact ⟨k + 1, g9, cap9, _, by omega, by go_num, rfl, rfl, Lib.hid (.inr HF.out), HR, hBE⟩
                    case measure => (simp [intOf] <;> omega)
      · have hF : fdB L = true := by
          rcases hp.out with h | h
          · omega
          · exact h
        have HR : Hid (fdO L = srtF (L.take k)) := Lib.hid (by rw [fdO_in hF, List.take_of_length_le (by omega)])
        clear hF
        go_wp2
        go_ret
        exact ⟨_, rfl, by rw [HR.out]; exact hown.out, hbr.out⟩
end Go.Proofs.Ytbljpbmpfmnemaa
