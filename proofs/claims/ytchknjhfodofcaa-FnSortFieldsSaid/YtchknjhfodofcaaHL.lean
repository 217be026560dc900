/-
  The verifier's own text: DFl DFl2.
-/
import Derived.Test.YtchknjhfodofcaaRows
import Derived.Test.YtchknjhfodofcaaHK
import Derived.Test.YtchknjhfodofcaaGh
import Derived.Test.YtchknjhfodofcaaHG
import Derived.Test.YtchknjhfodofcaaHC
import Derived.Deep.RegionLaw
import Derived.WalkKit
import Derived.ProofKit
import Derived.Below
import Derived.Lib.Hide
import Derived.Outline
import Derived.BigQuiet
import Derived.Deep.QuietTactic
import Derived.Deep.Draws
import Derived.Laws.OwnMore
import Derived.Laws.Rows
import Derived.WalkSpells
import Derived.Deep.RegionWith
namespace Go.Proofs.Ytchknjhfodofcaa
open Go.RowKit
set_option linter.unusedVariables false
/-- fields that were drawn -/
def DrewFds (W : World) (g m : Nat) (e : Ending) (w' : World) : Prop := ∃ (v : Value) (L : List Fd), e = .returned v ∧ L.length ≤ 7 ∧ FitFds L ∧ OwnFd w' (g + 1) v L ∧ Rd W w' g m
theorem lit_fds (j : Nat) (h : j < 4) : ∃ y : Fd, FitFd y ∧ (#[Value.string ⟨#[]⟩, .int .i64 0, .string ⟨#[65]⟩, .int .i64 0, .string ⟨#[122]⟩, .int .i64 (-1), .string ⟨#[122]⟩, .int .i64 1000000001] : Array Value)[j * 2]? = some (.string y.name) ∧ (#[Value.string ⟨#[]⟩, .int .i64 0, .string ⟨#[65]⟩, .int .i64 0, .string ⟨#[122]⟩, .int .i64 (-1), .string ⟨#[122]⟩, .int .i64 1000000001] : Array Value)[j * 2 + 1]? = some (.int .i64 y.val) := by
  obtain rfl | rfl | rfl | rfl : j = 0 ∨ j = 1 ∨ j = 2 ∨ j = 3 := by omega
  · exact ⟨⟨⟨#[]⟩, 0⟩, by unfold FitFd; decide, rfl, rfl⟩
  · exact ⟨⟨⟨#[65]⟩, 0⟩, by unfold FitFd; decide, rfl, rfl⟩
  · exact ⟨⟨⟨#[122]⟩, -1⟩, by unfold FitFd; decide, rfl, rfl⟩
  · exact ⟨⟨⟨#[122]⟩, 1000000001⟩, by unfold FitFd; decide, rfl, rfl⟩
theorem fit_more {L : List Fd} {x : Fd} (h : FitFds L) (k : FitFd x) : FitFds (L ++ [x]) := fun y m => by
  rcases List.mem_append.1 m with m | m
  · exact h y m
  · have : y = x := by simpa using m
    rw [this]; exact k
set_option maxRecDepth 100000 in
set_option maxHeartbeats 8000000 in
theorem fields_draw (W w : World) (g m : Nat) (n : Int) (h : Rd W w g m) (hm : m ≤ 500000) (hn1 : -1000000 ≤ n) (hn2 : n ≤ 1000000) :
    Calls Try.prog 30 #[.pointer (some ⟨g, 0, none⟩), .int .i64 n] w (DrewFds W g (m + 20)) := by
  have hlt := h.lt
  have hown0 := Lib.hid (ownFd_none w (g + 1) (by omega))
  have hr0 := h.alloc (.cells #[] 28)
  go_enter Try.func30, Try.ntmps30
  go_wp2_with fail
  refine (pick_any W _ g m 6 hr0 (by omega)).mono ?_
  rintro e w3 ⟨v3, a3, b3, _, rfl, hr3, hg3⟩
  have b3 := b3 (by omega)
  have hown3 := Lib.hid (OwnG.row hown0.out hg3 (fun k e => by cases e; omega))
  obtain ⟨j, rfl⟩ : ∃ j : Nat, v3 = j := ⟨v3.toNat, by omega⟩
  have hj : j ≤ 5 := by omega
  have hr3' := Lib.hid (hr3.more (m' := m + 1 + 3 * (5 - j)) (by omega))
  clear a3 b3 hg3 hr3 hown0 hr0
  go_wp2
  go_loopw [5, 6, 7] (fun x i _ wr => ∃ (k p q cap : Nat) (L : List Fd), k ≤ 5 ∧ i = .int .i64 k ∧ x = .slice (some ⟨q, 0, none⟩) p cap ∧ p ≤ 5 - k ∧ Hid (L.length = p) ∧ Hid (FitFds L) ∧ Hid (OwnFd wr (g + 1) (.slice (some ⟨q, 0, none⟩) p cap) L) ∧ Hid (Rd W wr g (m + 1 + 3 * (5 - k)))) (fun _ i _ _ => (intOf i).toNat)
  case atStart => exact ⟨j, 0, w.heap.size, 0, [], hj, rfl, rfl, by omega, Lib.hid rfl, Lib.hid (fun _ m => by simp at m), hown3, hr3'⟩
  case round =>
    obtain ⟨k, p, q, cap, L, hk, rfl, rfl, hp, hl, hsh, hown, hr⟩ := hrel
    by_cases h0 : k = 0
    · subst h0
      have hr' := hr.out.more (m' := m + 16) (by omega)
      have hll : L.length ≤ 1073741824 := by have := hl.out; omega
      clear hr
      go_wp2_with fail
      refine (odd_any W _ g (m + 16) n hr' (by omega) hn1 hn2).mono ?_
      rintro e w6 ⟨b, rfl, hr6, hg6⟩
      have hown6 := Lib.hid (OwnG.row hown.out hg6 (fun k e => by cases e; omega))
      clear hg6 hr' hown
      rcases b with _ | _
      · go_wp2
        go_ret
        exact ⟨_, L, rfl, by have := hl.out; omega, hsh.out, hown6.out, hr6.more (by omega)⟩
      · have hlt6 := hr6.lt
        go_wp2_with fail
        refine (pick_any W _ g (m + 16 + 1) 4 (hr6.alloc _) (by omega)).mono ?_
        rintro e w7 ⟨v7, a7, b7, _, rfl, hr7, hg7⟩
        have b7 := b7 (by omega)
        have k0 := fun i => cell_kept hg7 hlt6 i
        obtain ⟨j7, rfl⟩ : ∃ j : Nat, v7 = j := ⟨v7.toNat, by omega⟩
        have hj7 : j7 < 4 := by omega
        obtain ⟨⟨nm, z⟩, hfx, e0, e1⟩ := lit_fds j7 hj7
        have d0 := (k0 (j7 * 2)).trans e0
        have d1 := (k0 (j7 * 2 + 1)).trans e1
        simp only at d0 d1
        have hown7 := Lib.hid (OwnG.row (OwnG.grown hown6.out ((Below.refl _ _).alloc (Nat.le_refl _) _)) hg7 (fun k e => by cases e; omega))
        have hlt7 := hr7.lt
        have hj0 : (0 : Int) ≤ (j7 : Int) := by omega
        have hj4 : (j7 : Int) < 4 := by omega
        have hfx := Lib.hid (fit_more hsh.out hfx)
        clear hg7 hown6 hr6 k0 e0 e1
        go_wp2_with (at_builtin; refine appFd rfl (.tmp 34) (.tmp 44) rfl (g + 1) _ L nm z rfl hown7.out (by omega) _ rfl rfl hll ?_; intro v8 w8 hown8 hg8; have hr8 := Lib.hid (rd_appG hr7 hown7.out hg8); have hown8 := Lib.hid hown8; clear hg8)
        go_ret
        exact ⟨_, _, rfl, by rw [List.length_append, List.length_singleton]; have := hl.out; omega, hfx.out, hown8.out, hr8.out.more (by omega)⟩
    · obtain ⟨r, rfl⟩ : ∃ r, k = r + 1 := ⟨k - 1, by omega⟩
      have hr' := hr.out
      clear hr
      go_wp2_with fail
      refine (word_draw W _ g _ 0 hr' (by omega) (by omega) (by omega)).mono ?_
      rintro e w7 ⟨nm, hnm, rfl, hr7, hg7⟩
      have hown7 := Lib.hid (OwnG.row hown.out hg7 (fun k e => by cases e; omega))
      clear hg7 hown hr'
      go_wp2_with fail
      refine (pick_any W _ g _ 100 hr7 (by omega)).mono ?_
      rintro e w8 ⟨z, _, _, _, rfl, hr8, hg8⟩
      have hown8 := Lib.hid (OwnG.row hown7.out hg8 (fun k e => by cases e; omega))
      obtain ⟨wq, hwq⟩ : ∃ wq, w8.alloc (.cells #[.string nm, .int .i64 z] 28) = wq := ⟨_, rfl⟩
      have hrowq := Lib.hid (fun wX (hX : Below wq.heap.size wq wX) => row2 hwq hX)
      have hbq : Below w8.heap.size w8 wq := by rw [← hwq]; exact (Below.refl _ _).alloc (Nat.le_refl _) _
      have hsq : w8.heap.size < wq.heap.size := by rw [← hwq]; simp
      have hownq := Lib.hid (OwnG.grown hown8.out hbq)
      have hrq := Lib.hid (rd_below hr8 hbq)
      have hltq := hrq.out.lt
      obtain ⟨y0, y1⟩ := hrowq.out wq (Below.refl _ _)
      have hfx : FitFd ⟨nm, z⟩ := by show nm.size ≤ _; omega
      have hfx2 := fit_more hsh.out hfx
      have hll0 : ([] : List Fd).length + L.length ≤ 1073741824 := by have := hl.out; simp; omega
      have hll1 : L.length + [(⟨nm, z⟩ : Fd)].length ≤ 1073741824 := by have := hl.out; simp; omega
      have hll : L.length ≤ 1073741824 := by have := hl.out; omega
      have hn1 : ¬ (w8.heap.size = wq.heap.size) := by omega
      have hn2 : ¬ (w8.heap.size = wq.heap.size + 1) := by omega
      clear hg8 hown7 hr7 hr8 hbq hown8
      go_wp2_with fail
      have hwq := Lib.hid hwq
      go_cut [26] (fun s wx => s = .bool (flsB (L ++ [⟨nm, z⟩])) ∧ Hid (Below wq.heap.size wq wx))
      case first =>
        go_region_law (first
            | (refine stepFd rfl (.tmp 20) (.tmp 21) rfl wq.heap.size _ _ [] (L) rfl (by first | exact own0_a wq _ (Nat.le_refl _) | exact own0_b wq _ (Nat.le_refl _) _ | exact own0_c wq _ (Nat.le_refl _) _) (by simp <;> omega) rfl (by first | exact (OwnG.rd hownq.out).below (belN_1 wq _) | exact (OwnG.rd hownq.out).below (belN_2 wq _ _)) hll0 ?_; intro v7 w7 hown7 hg7; rw [List.nil_append] at hown7; (first | (have hg7 : World.grownBy _ w7 (some wq.heap.size) := hg7) | (have hg7 : World.grownBy _ w7 (some (wq.heap.size + 1)) := hg7)); have hB7 : Hid (Below wq.heap.size wq w7) := Lib.hid (by first | exact (belN_1 wq _).grown hg7 (by simp) (fun q hq => by cases hq; omega) | exact (belN_2 wq _ _).grown hg7 (by simp <;> omega) (fun q hq => by cases hq; omega)); obtain ⟨e0, e1⟩ := hrowq.out w7 hB7.out; (first | (have hL7 := rdG_kept (lit1_b encFd_len wq _ (⟨nm, z⟩ : Fd) #[.string nm, .int .i64 z] rfl 28) hg7 (by omega)) | (have hL7 := rdG_kept (lit1_c encFd_len wq _ (⟨nm, z⟩ : Fd) #[.string nm, .int .i64 z] rfl 28) hg7 (by omega)) | skip); clear hg7; have hown7 := Lib.hid hown7)
            | (refine stepFd rfl (.tmp 22) (.tmp 24) rfl wq.heap.size _ _ (L) [(⟨nm, z⟩ : Fd)] rfl (by first | exact hown7.out | exact OwnG.grown hown7.out ((Below.refl _ _).alloc (Nat.le_refl _) _)) (by first | exact hB7.out.size | exact Nat.le_trans hB7.out.size (by simp)) rfl (by first | exact hL7 | exact rdFd_lit1 w7 (⟨nm, z⟩ : Fd) _) hll1 ?_; intro v8 w8 hown8 hg8; have hB8 : Hid (Below wq.heap.size wq w8) := Lib.hid (by first | exact own_below' hown7.out hB7.out hg8 | exact own_below' (OwnG.grown hown7.out ((Below.refl _ _).alloc (Nat.le_refl _) _)) (hB7.out.alloc hB7.out.size _) hg8); clear hg8; have hown8 := Lib.hid hown8)
            | (go_simp; (go_at_call 13; refine (flS_valid _ (L ++ [(⟨nm, z⟩ : Fd)]) _ (OwnG.rd hown8.out) hfx2).mono ?_; rintro e w9 ⟨rfl, hb9⟩; have hB9 : Hid (Below wq.heap.size wq w9) := Lib.hid (below_trans' hB8.out hb9); clear hb9; dsimp only)))
        all_goals (go_wp2_with fail; go_meet; exact ⟨rfl, hB9⟩)
      case rest =>
        obtain ⟨hs26, hBc⟩ := hcut
        obtain ⟨bq, hbq⟩ : ∃ bq, flsB (L ++ [(⟨nm, z⟩ : Fd)]) = bq := ⟨_, rfl⟩
        rw [hbq] at hs26
        have hownc := Lib.hid (OwnG.grown hownq.out hBc.out)
        have hrc := Lib.hid (rd_below hrq.out hBc.out)
        have hszc : g + 1 ≤ wc.heap.size := by have := hBc.out.size; omega
        obtain ⟨x0, x1⟩ := hrowq.out wc hBc.out
        clear hbq
        rcases bq with _ | _
        · subst hs26
          have iw := IntWalk.i64_in (r : Int) (by omega)
          have hr9 := Lib.hid (hrc.out.more (m' := m + 1 + 3 * (5 - r)) (by omega))
          go_wp2
          go_roundw
          case rel => exact ⟨r, p, q, cap, L, by omega, by go_num, rfl, by omega, hl, hsh, hownc, hr9⟩
          case measure => (simp [intOf] <;> omega)
        · subst hs26
          have iw := IntWalk.i64_in (r : Int) (by omega)
          go_wp2_with (at_builtin; refine appFd rfl (.tmp 27) (.tmp 29) rfl (g + 1) _ L nm z rfl hownc.out hszc _ rfl rfl hll ?_; intro v10 w10 hown10 hg10; have hr10 := Lib.hid (rd_appG hrc.out hownc.out hg10); have hown10 := Lib.hid hown10; clear hg10)
          have hl10 : (L ++ [(⟨nm, z⟩ : Fd)]).length = p + 1 := by have := hl.out; simp; omega
          rcases OwnG.form hown10.out with ⟨_, hnil⟩ | ⟨g10, cap10, rfl, _⟩
          · simp at hnil
          · rw [hl10] at hown10 ⊢
            replace hl10 := Lib.hid hl10
            have hr9 := Lib.hid (hr10.out.more (m' := m + 1 + 3 * (5 - r)) (by omega))
            have hf2 := Lib.hid hfx2
            go_wp2
            go_roundw
            case rel => exact ⟨r, p + 1, g10, cap10, _, by omega, by go_num, rfl, by omega, hl10, hf2, hown10, hr9⟩
            case measure => (simp [intOf] <;> omega)
def DrawnFds (w : World) (e : Ending) (w' : World) : Prop := ∃ (v : Value) (L : List Fd), e = .returned v ∧ L.length ≤ 7 ∧ FitFds L ∧ OwnFd w' w.heap.size v L ∧ Below w.heap.size w w'
set_option maxRecDepth 100000 in
set_option maxHeartbeats 1000000 in
theorem drawFV_any (w : World) (A : Option Addr) (n c : Nat) (h : CodeArg w A n c) : Calls Try.prog 11 #[.slice A n c] w (DrawnFds w) := by
  go_enter Try.func11, Try.ntmps11
  go_wp2_with (go_at_call 31; refine (open_any w A n c h).mono ?_; rintro e w2 ⟨rfl, hr2⟩)
  refine (fields_draw w w2 w.heap.size 0 2 hr2 (by omega) (by omega) (by omega)).mono ?_
  rintro e w3 ⟨v, L, rfl, h9, hsh, hown, hr3⟩
  go_wp2
  go_ret
  exact ⟨v, L, rfl, h9, hsh, OwnG.base hown (by omega), hr3.bel⟩
set_option maxRecDepth 100000 in
set_option maxHeartbeats 1000000 in
theorem drawFS_any (w : World) (A : Option Addr) (n c : Nat) (h : CodeArg w A n c) : Calls Try.prog 15 #[.slice A n c] w (DrawnFds w) := by
  go_enter Try.func15, Try.ntmps15
  go_wp2_with (go_at_call 31; refine (open_any w A n c h).mono ?_; rintro e w2 ⟨rfl, hr2⟩)
  refine (fields_draw w w2 w.heap.size 0 9 hr2 (by omega) (by omega) (by omega)).mono ?_
  rintro e w3 ⟨v, L, rfl, h9, hsh, hown, hr3⟩
  go_wp2
  go_ret
  exact ⟨v, L, rfl, h9, hsh, OwnG.base hown (by omega), hr3.bel⟩
set_option maxRecDepth 100000 in
set_option maxHeartbeats 1000000 in
theorem drawFT_any (w : World) (A : Option Addr) (n c : Nat) (h : CodeArg w A n c) : Calls Try.prog 19 #[.slice A n c] w (DrawnFds w) := by
  go_enter Try.func19, Try.ntmps19
  go_wp2_with (go_at_call 31; refine (open_any w A n c h).mono ?_; rintro e w2 ⟨rfl, hr2⟩)
  refine (fields_draw w w2 w.heap.size 0 6 hr2 (by omega) (by omega) (by omega)).mono ?_
  rintro e w3 ⟨v, L, rfl, h9, hsh, hown, hr3⟩
  go_wp2
  go_ret
  exact ⟨v, L, rfl, h9, hsh, OwnG.base hown (by omega), hr3.bel⟩
set_option maxRecDepth 100000 in
set_option maxHeartbeats 4000000 in
theorem drawFR_any (w : World) (A : Option Addr) (n c : Nat) (h : CodeArg w A n c) : Calls Try.prog 23 #[.slice A n c] w (DrawnStr w 100) := by
  go_enter Try.func23, Try.ntmps23
  go_wp2_with (go_at_call 31; refine (open_any w A n c h).mono ?_; rintro e w2 ⟨rfl, hr2⟩)
  refine (fields_draw w w2 w.heap.size 0 0 hr2 (by omega) (by omega) (by omega)).mono ?_
  rintro e w3 ⟨v, L, rfl, h9, hsh, hown, hr3⟩
  go_wp2_with fail
  refine (flS_text v L _ (OwnG.rd hown) hsh).mono ?_
  rintro e w4 ⟨rfl, hb4⟩
  have hr4 := rd_below hr3 hb4
  have hs : (bs (ftT (soF L))).size ≤ 96 := by rw [bs_size]; have h1 := ftT_len (flsB_of (soF_valid L)).2.1; have h2 := soF_6 L; omega
  obtain ⟨s, hs'⟩ : ∃ s, bs (ftT (soF L)) = s := ⟨_, rfl⟩
  rw [hs'] at hs ⊢
  clear hs' hb4 hr3 hr2 hsh hown
  go_wp2_with fail
  refine (odd_any w _ w.heap.size (0 + 20) 3 hr4 (by omega) (by omega) (by omega)).mono ?_
  rintro e w6 ⟨b, rfl, hr6, _⟩
  have z2 : (⟨#[59]⟩ : ByteArray).size = 1 := rfl
  have s2 : s.size + (⟨#[59]⟩ : ByteArray).size ≤ 9223372036854775807 := by omega
  have l2 : (s ++ ⟨#[59]⟩ : ByteArray).size ≤ 100 := by rw [ByteArray.size_append]; omega
  have L2 := Lib.hid l2
  clear l2 z2
  rcases b with _ | _
  · go_wp2
    go_ret
    exact ⟨_, by omega, rfl, hr6.bel⟩
  · go_wp2_with fail
    refine (pick_any w _ w.heap.size (0 + 20 + 1) 9 (hr6.alloc _) (by omega)).mono ?_
    rintro e w7 ⟨v4, a4, b4, _, rfl, hr7, hg7⟩
    have b4 := b4 (by omega)
    have k0 := cell_kept hg7 hr6.lt
    clear hg7
    obtain rfl | rfl | rfl | rfl | rfl | rfl | rfl | rfl | rfl : v4 = 0 ∨ v4 = 1 ∨ v4 = 2 ∨ v4 = 3 ∨ v4 = 4 ∨ v4 = 5 ∨ v4 = 6 ∨ v4 = 7 ∨ v4 = 8 := by omega
    all_goals
      go_wp2
      go_ret
      first
        | exact ⟨_, by decide, rfl, hr7.bel⟩
        | exact ⟨_, L2.out, rfl, hr7.bel⟩
end Go.Proofs.Ytchknjhfodofcaa
