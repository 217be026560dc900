/-
  The verifier's own text: DFeed DFeed2 DRead.
-/
import Derived.Test.YtbljpbmpfmnemaaRows
import Derived.Test.YtbljpbmpfmnemaaGs
import Derived.Test.YtbljpbmpfmnemaaGt
import Derived.Test.YtbljpbmpfmnemaaGo
import Derived.Deep.DeepCutAuto
import Derived.Test.YtbljpbmpfmnemaaGq
import Derived.WalkKit
import Derived.ProofKit
import Derived.Below
import Derived.Lib.Hide
import Derived.Outline
import Derived.BigQuiet
import Derived.Deep.QuietTactic
import Derived.Deep.Draws
import Derived.Laws.OwnMore
import Derived.Laws.Rows
import Derived.WalkSpells
import Derived.Deep.RegionWith
namespace Go.Proofs.Ytbljpbmpfmnemaa
open Go.RowKit
set_option linter.unusedVariables false
def ShortF (L : List It) : Prop := ∀ i ∈ L, ShortI i
theorem shortF_snoc {L : List It} {i : It} (h : ShortF L) (h' : ShortI i) : ShortF (L ++ [i]) := fun x m => by
  rcases List.mem_append.1 m with m | m
  · exact h x m
  · have : x = i := by simpa using m
    rw [this]; exact h'
theorem fit_shortI {i : It} (h : ShortI i) : FitI i := ⟨by have := h.1; omega, by have := h.2.1; omega, by have := h.2.2; omega⟩
theorem fit_shortF {L : List It} (h : ShortF L) : FitF L := fun i m => fit_shortI (h i m)
/-- a feed that was drawn -/
def DrewF (W : World) (g m : Nat) (e : Ending) (w' : World) : Prop := ∃ (v : Value) (L : List It), e = .returned v ∧ L.length ≤ 7 ∧ ShortF L ∧ OwnF w' (g + 1) v L ∧ Rd W w' g m
set_option maxRecDepth 100000 in
set_option maxHeartbeats 8000000 in
theorem feed_draw (W w : World) (g m : Nat) (n : Int) (h : Rd W w g m) (hm : m ≤ 600000) (hn1 : -1000000 ≤ n) (hn2 : n ≤ 1000000) :
    Calls Try.prog 40 #[.pointer (some ⟨g, 0, none⟩), .int .i64 n] w (DrewF W g (m + 87)) := by
  have hlt := h.lt
  go_enter Try.func40, Try.ntmps40
  go_wp2_with fail
  refine (pick_any W _ g m 7 (h.alloc _) (by omega)).mono ?_
  rintro e w3 ⟨v, a3, b3, _, rfl, hr3, hg3⟩
  have b3 := b3 (by omega)
  have hown0 := Lib.hid (OwnG.row (own_none w (g + 1) hlt) hg3 (fun k e => by cases e; omega))
  obtain ⟨j, rfl⟩ : ∃ j : Nat, v = j := ⟨v.toNat, by omega⟩
  have hj : j ≤ 6 := by omega
  have hr3' := Lib.hid (hr3.more (m' := m + 1 + 12 * (6 - j)) (by omega))
  clear a3 b3 hg3 hr3
  go_wp2
  go_loopw [5, 6] (fun x i wr => ∃ (k : Nat) (L : List It) (y : Value), k ≤ 6 ∧ i = .int .i64 k ∧ y = x ∧ L.length + k ≤ 6 ∧ Hid (ShortF L) ∧ Hid (OwnF wr (g + 1) y L) ∧ Hid (Rd W wr g (m + 1 + 12 * (6 - k)))) (fun x i _ => (intOf i).toNat)
  case atStart => exact ⟨j, [], _, hj, rfl, rfl, by simp; omega, Lib.hid (by intro x m; simp at m), hown0, hr3'⟩
  case round =>
    obtain ⟨k, out, y, hk, rfl, rfl, hl, hsh, hown, hr⟩ := hrel
    obtain ⟨A, c2, hy⟩ := OwnF.shape hown.out
    subst hy
    by_cases h0 : k = 0
    · subst h0
      have hr' := hr.out.more (m' := m + 73) (by omega)
      have hl6 : out.length ≤ 6 := by omega
      clear hl hr
      go_wp2_with fail
      refine (odd_any W _ g (m + 73) n hr' (by omega) hn1 hn2).mono ?_
      rintro e w5 ⟨b, rfl, hr5, hg5⟩
      have hown5 := Lib.hid (OwnG.row hown.out hg5 (fun k e => by cases e; omega))
      have hlt5 := hr5.lt
      clear hg5
      rcases b with _ | _
      · go_wp2
        go_ret
        exact ⟨_, out, rfl, by omega, hsh.out, hown5.out, hr5.more (by omega)⟩
      · have hl0 : out.length ≤ 1073741824 := by omega
        by_cases hz : 0 < out.length
        · have t0 : decide ((0 : Int) < (out.length : Int)) = true := decide_eq_true (by omega)
          have t1 : (0 : Int) < (out.length : Int) := by omega
          go_wp2_with fail
          refine (pick_any W _ g (m + 74) 2 hr5 (by omega)).mono ?_
          rintro e w6 ⟨v6, a6, b6, _, rfl, hr6, hg6⟩
          have b6 := b6 (by omega)
          have hown6 := Lib.hid (OwnG.row hown5.out hg6 (fun k e => by cases e; omega))
          have hlt6 := hr6.lt
          clear hg6
          obtain rfl | rfl : v6 = 0 ∨ v6 = 1 := by omega
          · rcases OwnG.form hown6.out with ⟨_, q⟩ | ⟨g', cap', hv, hgb⟩
            · rw [q] at hz; simp at hz
            · obtain ⟨rfl, rfl⟩ : A = some ⟨g', 0, none⟩ ∧ c2 = cap' := by simpa using hv
              obtain ⟨a0, _, _⟩ := OwnG.cellAt encI_len hown6.out 0 hz 0 (by omega) 0 rfl
              obtain ⟨a1, _, _⟩ := OwnG.cellAt encI_len hown6.out 0 hz 1 (by omega) 1 rfl
              obtain ⟨a2, _, _⟩ := OwnG.cellAt encI_len hown6.out 0 hz 2 (by omega) 2 rfl
              obtain ⟨a3, _, _⟩ := OwnG.cellAt encI_len hown6.out 0 hz 3 (by omega) 3 rfl
              have hs0 := hsh.out _ (List.getElem_mem hz)
              obtain ⟨x, hx⟩ : ∃ x, out[0] = x := ⟨_, rfl⟩
              rw [hx] at a0 a1 a2 a3 hs0
              obtain ⟨x0, x1, x2, x3⟩ := x
              rw [show (encI ⟨x0, x1, x2, x3⟩)[0]? = some (.string x0) from rfl] at a0
              rw [show (encI ⟨x0, x1, x2, x3⟩)[1]? = some (.string x1) from rfl] at a1
              rw [show (encI ⟨x0, x1, x2, x3⟩)[2]? = some (.string x2) from rfl] at a2
              rw [show (encI ⟨x0, x1, x2, x3⟩)[3]? = some (.int .i64 x3) from rfl] at a3
              have hs2 := Lib.hid (shortF_snoc hsh.out hs0)
              clear hx hv hs0
              go_wp2_with (at_builtin; refine app_item rfl (.tmp 39) (.tmp 43) rfl (g + 1) _ out x0 x1 x2 x3 rfl hown6.out hlt6 _ rfl rfl hl0 ?_; intro v7 w7 hown7 hg7; have hr7 := Lib.hid (rd_appG hr6 hown6.out hg7); have hown7 := Lib.hid hown7; clear hg7)
              go_ret
              exact ⟨v7, _, rfl, by simp; omega, hs2.out, hown7.out, hr7.out.more (by omega)⟩
          · go_wp2_with fail
            refine (item_draw W _ g (m + 75) 1 hr6 (by omega) (by omega) (by omega)).mono ?_
            rintro e w7 ⟨ky, ti, bo, da, rfl, hsi, hr7, hg7⟩
            have hown7 := Lib.hid (OwnG.row hown6.out hg7 (fun k e => by cases e; omega))
            have hlt7 := hr7.lt
            have hs2 := Lib.hid (shortF_snoc hsh.out hsi)
            clear hg7
            go_wp2_with (at_builtin; refine app_item rfl (.tmp 45) (.tmp 48) rfl (g + 1) _ out ky ti bo da rfl hown7.out hlt7 _ rfl rfl hl0 ?_; intro v8 w8 hown8 hg8; have hr8 := Lib.hid (rd_appG hr7 hown7.out hg8); have hown8 := Lib.hid hown8; clear hg8)
            go_ret
            exact ⟨v8, _, rfl, by simp; omega, hs2.out, hown8.out, hr8.out.more (by omega)⟩
        · have t0 : decide ((0 : Int) < (out.length : Int)) = false := decide_eq_false (by omega)
          go_wp2_with fail
          refine (item_draw W _ g (m + 74) 1 hr5 (by omega) (by omega) (by omega)).mono ?_
          rintro e w7 ⟨ky, ti, bo, da, rfl, hsi, hr7, hg7⟩
          have hown7 := Lib.hid (OwnG.row hown5.out hg7 (fun k e => by cases e; omega))
          have hlt7 := hr7.lt
          have hs2 := Lib.hid (shortF_snoc hsh.out hsi)
          clear hg7
          go_wp2_with (at_builtin; refine app_item rfl (.tmp 45) (.tmp 48) rfl (g + 1) _ out ky ti bo da rfl hown7.out hlt7 _ rfl rfl hl0 ?_; intro v8 w8 hown8 hg8; have hr8 := Lib.hid (rd_appG hr7 hown7.out hg8); have hown8 := Lib.hid hown8; clear hg8)
          go_ret
          exact ⟨v8, _, rfl, by simp; omega, hs2.out, hown8.out, hr8.out.more (by omega)⟩
    · have hpos : 0 < k := by omega
      have hr' := hr.out
      go_wp2_with fail
      refine (item_draw W _ g _ 0 hr' (by omega) (by omega) (by omega)).mono ?_
      rintro e w3 ⟨ky, ti, bo, da, rfl, hsi, hr3, hg3⟩
      have hown3 := Lib.hid (OwnG.row hown.out hg3 (fun k e => by cases e; omega))
      clear hg3 hr'
      obtain ⟨w4, hw4⟩ : ∃ w4, w3.alloc (.cells #[.string ky, .string ti, .string bo, .int .i64 da] 30) = w4 := ⟨_, rfl⟩
      have hr4 := Lib.hid (show Rd W w4 g _ by rw [← hw4]; exact hr3.alloc _)
      have hown4 : Hid (OwnF w4 (g + 1) _ _) := Lib.hid (by rw [← hw4]; exact OwnG.grown hown3.out ((Below.refl _ _).alloc (Nat.le_refl _) _))
      obtain ⟨d0, d1, d2, d3⟩ := row4 hw4 (Below.refl _ _)
      have hrw := Lib.hid (fun wX hX => row4 (wX := wX) hw4 hX)
      have hrd4 := Lib.hid (OwnG.rd hown4.out)
      have hlt4 : w3.heap.size < w4.heap.size := by rw [← hw4]; simp
      have hne4 : ¬ (w3.heap.size = w4.heap.size) := by omega
      have hss := Lib.hid (shortF_snoc hsh.out hsi)
      have hfs := Lib.hid (fit_shortF hss.out)
      have hll : ([] : List It).length + out.length ≤ 1073741824 := by simp; omega
      have hll2 : out.length + [(⟨ky, ti, bo, da⟩ : It)].length ≤ 1073741824 := by simp; omega
      have hgl : g + 1 ≤ w4.heap.size := by have := hr4.out.lt; omega
      go_upto_region 6 with fail
      go_cut [23] (fun s23 wx => s23 = .bool (fdB (out ++ [⟨ky, ti, bo, da⟩])) ∧ Hid (Below w4.heap.size w4 wx))
      case first =>
        go_region_law (first
          | (refine step_item rfl (.tmp 17) (.tmp 18) rfl w4.heap.size _ _ [] out rfl (by first | exact own_a w4 _ (Nat.le_refl _) | exact own_b w4 _ (Nat.le_refl _) _ | exact own_c w4 _ (Nat.le_refl _) _) (by simp <;> omega) rfl (by first | exact hrd4.out.below (bel_1 w4 _) | exact hrd4.out.below (bel_2 w4 _ _)) hll ?_; intro v7 w7 hown7 hg7; rw [List.nil_append] at hown7; (first | (have hg7 : World.grownBy _ w7 (some w4.heap.size) := hg7) | (have hg7 : World.grownBy _ w7 (some (w4.heap.size + 1)) := hg7)); have hB7 : Hid (Below w4.heap.size w4 w7) := Lib.hid (by first | exact (bel_1 w4 _).grown hg7 (by simp) (fun q hq => by cases hq; omega) | exact (bel_2 w4 _ _).grown hg7 (by simp <;> omega) (fun q hq => by cases hq; omega)); obtain ⟨e0, e1, e2, e3⟩ := hrw.out w7 hB7.out; (first | (have hL7 := rd_kept (lit_b w4 _ ky ti bo da) hg7 (by omega)) | (have hL7 := rd_kept (lit_c w4 _ ky ti bo da) hg7 (by omega)) | skip); clear hg7; have hown7 := Lib.hid hown7)
          | (refine step_item rfl (.tmp 19) (.tmp 21) rfl w4.heap.size _ _ out [⟨ky, ti, bo, da⟩] rfl (by first | exact hown7.out | exact OwnG.grown hown7.out ((Below.refl _ _).alloc (Nat.le_refl _) _)) (by first | exact hB7.out.size | exact Nat.le_trans hB7.out.size (by simp)) rfl (by first | exact hL7 | exact rd_lit1 w7 ⟨ky, ti, bo, da⟩ _) hll2 ?_; intro v8 w8 hown8 hg8; have hB8 : Hid (Below w4.heap.size w4 w8) := Lib.hid (by first | exact own_below hown7.out hB7.out hg8 | exact own_below (OwnG.grown hown7.out ((Below.refl _ _).alloc (Nat.le_refl _) _)) (hB7.out.alloc hB7.out.size _) hg8); clear hg8; have hown8 := Lib.hid hown8)
          | (go_simp; go_at_call 43; refine (fdS_valid _ _ _ (OwnG.rd hown8.out) hfs.out).mono ?_; rintro e w9 ⟨rfl, hb9⟩; have hB9 := Lib.hid (below_trans' hB8.out hb9); clear hb9; dsimp only))
        all_goals (go_wp2_with fail; go_meet; exact ⟨rfl, hB9⟩)
      case rest =>
        obtain ⟨hs23, hB9⟩ := hcut
        have hown9 := Lib.hid (OwnG.grown hown4.out hB9.out)
        have hr9 := Lib.hid (rd_below hr4.out hB9.out)
        clear d0 d1 d2 d3
        obtain ⟨d0, d1, d2, d3⟩ := hrw.out wc hB9.out
        rcases hF : fdB (out ++ [⟨ky, ti, bo, da⟩]) with _ | _ <;> rw [hF] at hs23 <;> subst hs23
        · go_wp2
          go_roundw
          case rel => exact ⟨k - 1, out, _, by omega, by go_num, rfl, by omega, hsh, hown9, Lib.hid (hr9.out.more (by omega))⟩
          case measure => simp [intOf]; omega
        · have hl : out.length ≤ 1073741824 := by omega
          have hlt9 := hr9.out.lt
          go_wp2_with (at_builtin; refine app_item rfl (.tmp 24) (.tmp 26) rfl (g + 1) _ out ky ti bo da rfl hown9.out hlt9 _ rfl rfl hl ?_; intro v7 w7 hown7 hg7; have hr7 := Lib.hid (rd_appG hr9.out hown9.out hg7); have hown7 := Lib.hid hown7; clear hg7)
          go_roundw
          case rel => exact ⟨k - 1, _, _, by omega, by go_num, rfl, by simp; omega, hss, hown7, Lib.hid (hr7.out.more (by omega))⟩
          case measure => simp [intOf]; omega
def DrawnF (w : World) (e : Ending) (w' : World) : Prop := ∃ (v : Value) (L : List It), e = .returned v ∧ L.length ≤ 7 ∧ ShortF L ∧ OwnF w' w.heap.size v L ∧ Below w.heap.size w w'
def DrawnFX (w : World) (e : Ending) (w' : World) : Prop := ∃ (v : Value) (L : List It) (n : ByteArray), e = .returned (.tuple #[v, .string n]) ∧ L.length ≤ 7 ∧ n.size ≤ 9 ∧ ShortF L ∧ OwnF w' w.heap.size v L ∧ Below w.heap.size w w'
theorem of_fkeys (v : Int) (h0 : 0 ≤ v) (h1 : v < 4) : ∃ s : ByteArray, s.size ≤ 9 ∧ (#[Value.string ⟨#[107, 49]⟩, Value.string ⟨#[107, 50]⟩, Value.string ⟨#[107, 51]⟩, Value.string ⟨#[110, 111, 110, 101]⟩] : Array Value)[v.toNat]? = some (.string s) ∧
    (∀ h : v.toNat < [Value.string ⟨#[107, 49]⟩, Value.string ⟨#[107, 50]⟩, Value.string ⟨#[107, 51]⟩, Value.string ⟨#[110, 111, 110, 101]⟩].length, [Value.string ⟨#[107, 49]⟩, Value.string ⟨#[107, 50]⟩, Value.string ⟨#[107, 51]⟩, Value.string ⟨#[110, 111, 110, 101]⟩][v.toNat] = .string s) := by
  obtain rfl | rfl | rfl | rfl : v = 0 ∨ v = 1 ∨ v = 2 ∨ v = 3 := by omega
  all_goals exact ⟨_, by decide, rfl, fun _ => rfl⟩
def DrawnLS (w : World) (e : Ending) (w' : World) : Prop := ∃ (v : Value) (LS : List ByteArray), e = .returned v ∧ LS.length ≤ 30 ∧ (∀ s ∈ LS, s.size ≤ 5000) ∧ OwnS w' w.heap.size v LS ∧ Below w.heap.size w w'
def Short5 (LS : List ByteArray) : Prop := ∀ s ∈ LS, s.size ≤ 5000
theorem short5_snoc {LS : List ByteArray} {s : ByteArray} (h : Short5 LS) (h' : s.size ≤ 5000) : Short5 (LS ++ [s]) := fun x m => by
  rcases List.mem_append.1 m with m | m
  · exact h x m
  · have : x = s := by simpa using m
    rw [this]; exact h'
theorem itT_size (i : It) : (bs (itT i)).size ≤ 5000 := by rw [bs_size]; have := itT_len i; omega
theorem fdL_short (L : List It) : Short5 (fdL L) := by
  intro s m
  unfold fdL at m
  split at m
  · obtain ⟨i, _, rfl⟩ := List.mem_map.1 m; exact itT_size i
  · simp at m
theorem fdL_len (L : List It) : (fdL L).length ≤ L.length := by
  unfold fdL; split <;> simp
theorem of_lit3 (x : ByteArray) (hx : x.size ≤ 5000) (v : Int) (h0 : 0 ≤ v) (h1 : v < 3) : ∃ s : ByteArray, s.size ≤ 5000 ∧ (#[Value.string ⟨#[]⟩, Value.string ⟨#[98, 97, 100]⟩, Value.string x] : Array Value)[v.toNat]? = some (.string s) ∧
    (∀ h : v.toNat < [Value.string ⟨#[]⟩, Value.string ⟨#[98, 97, 100]⟩, Value.string x].length, [Value.string ⟨#[]⟩, Value.string ⟨#[98, 97, 100]⟩, Value.string x][v.toNat] = .string s) := by
  obtain rfl | rfl | rfl : v = 0 ∨ v = 1 ∨ v = 2 := by omega
  · exact ⟨⟨#[]⟩, by decide, rfl, fun _ => rfl⟩
  · exact ⟨⟨#[98, 97, 100]⟩, by decide, rfl, fun _ => rfl⟩
  · exact ⟨x, hx, rfl, fun _ => rfl⟩
end Go.Proofs.Ytbljpbmpfmnemaa
