/-
  The verifier's own text: DFeed DFeed2 DRead.
-/
import Derived.Test.YteknjaocamlcpaaRows
import Derived.Test.YteknjaocamlcpaaGs
import Derived.Test.YteknjaocamlcpaaGt
import Derived.Test.YteknjaocamlcpaaGo
import Derived.Deep.DeepCutAuto
import Derived.Test.YteknjaocamlcpaaGq
import Derived.Test.YteknjaocamlcpaaMarkS
import Derived.WalkKit
import Derived.ProofKit
import Derived.Below
import Derived.Lib.Hide
import Derived.Outline
import Derived.BigQuiet
import Derived.Deep.QuietTactic
import Derived.Deep.Draws
import Derived.Laws.OwnMore
import Derived.Laws.Rows
import Derived.WalkSpells
import Derived.Deep.RegionWith
namespace Go.Proofs.Yteknjaocamlcpaa
open Go.RowKit
set_option linter.unusedVariables false
def ShortF (L : List It) : Prop := ∀ i ∈ L, ShortI i
theorem shortF_snoc {L : List It} {i : It} (h : ShortF L) (h' : ShortI i) : ShortF (L ++ [i]) := fun x m => by
  rcases List.mem_append.1 m with m | m
  · exact h x m
  · have : x = i := by simpa using m
    rw [this]; exact h'
theorem fit_shortI {i : It} (h : ShortI i) : FitI i := ⟨by have := h.1; omega, by have := h.2.1; omega, by have := h.2.2; omega⟩
theorem fit_shortF {L : List It} (h : ShortF L) : FitF L := fun i m => fit_shortI (h i m)
/-- a feed that was drawn -/
def DrewF (W : World) (g m : Nat) (e : Ending) (w' : World) : Prop := ∃ (v : Value) (L : List It), e = .returned v ∧ L.length ≤ 7 ∧ ShortF L ∧ OwnF w' (g + 1) v L ∧ Rd W w' g m
set_option maxRecDepth 100000 in
set_option maxHeartbeats 8000000 in
theorem feed_draw (W w : World) (g m : Nat) (n : Int) (h : Rd W w g m) (hm : m ≤ 600000) (hn1 : -1000000 ≤ n) (hn2 : n ≤ 1000000) :
    Calls Try.prog 40 #[.pointer (some ⟨g, 0, none⟩), .int .i64 n] w (DrewF W g (m + 87)) := by
  have hlt := h.lt
  go_enter Try.func40, Try.ntmps40
  go_wp2_with fail
  refine (pick_any W _ g m 7 (h.alloc _) (by omega)).mono ?_
  rintro e w3 ⟨v, a3, b3, _, rfl, hr3, hg3⟩
  have b3 := b3 (by omega)
  have hown0 := Lib.hid (OwnG.row (own_none w (g + 1) hlt) hg3 (fun k e => by cases e; omega))
  obtain ⟨j, rfl⟩ : ∃ j : Nat, v = j := ⟨v.toNat, by omega⟩
  have hj : j ≤ 6 := by omega
  have hr3' := Lib.hid (hr3.more (m' := m + 1 + 12 * (6 - j)) (by omega))
  clear a3 b3 hg3 hr3
  go_wp2
  go_loopw [5, 6] (fun x i wr => ∃ (k : Nat) (L : List It) (y : Value), k ≤ 6 ∧ i = .int .i64 k ∧ y = x ∧ L.length + k ≤ 6 ∧ Hid (ShortF L) ∧ Hid (OwnF wr (g + 1) y L) ∧ Hid (Rd W wr g (m + 1 + 12 * (6 - k)))) (fun x i _ => (intOf i).toNat)
  case atStart => exact ⟨j, [], _, hj, rfl, rfl, by simp; omega, Lib.hid (by intro x m; simp at m), hown0, hr3'⟩
  case round =>
    obtain ⟨k, out, y, hk, rfl, rfl, hl, hsh, hown, hr⟩ := hrel
    obtain ⟨A, c2, hy⟩ := OwnF.shape hown.out
    subst hy
    by_cases h0 : k = 0
    · subst h0
      have hr' := hr.out.more (m' := m + 73) (by omega)
      have hl6 : out.length ≤ 6 := by omega
      clear hl hr
      go_wp2_with fail
      refine (odd_any W _ g (m + 73) n hr' (by omega) hn1 hn2).mono ?_
      rintro e w5 ⟨b, rfl, hr5, hg5⟩
      have hown5 := Lib.hid (OwnG.row hown.out hg5 (fun k e => by cases e; omega))
      have hlt5 := hr5.lt
      clear hg5
      rcases b with _ | _
      · go_wp2
        go_ret
        exact ⟨_, out, rfl, by omega, hsh.out, hown5.out, hr5.more (by omega)⟩
      · have hl0 : out.length ≤ 1073741824 := by omega
        by_cases hz : 0 < out.length
        · have t0 : decide ((0 : Int) < (out.length : Int)) = true := decide_eq_true (by omega)
          have t1 : (0 : Int) < (out.length : Int) := by omega
          go_wp2_with fail
          refine (pick_any W _ g (m + 74) 2 hr5 (by omega)).mono ?_
          rintro e w6 ⟨v6, a6, b6, _, rfl, hr6, hg6⟩
          have b6 := b6 (by omega)
          have hown6 := Lib.hid (OwnG.row hown5.out hg6 (fun k e => by cases e; omega))
          have hlt6 := hr6.lt
          clear hg6
          obtain rfl | rfl : v6 = 0 ∨ v6 = 1 := by omega
          · rcases OwnG.form hown6.out with ⟨_, q⟩ | ⟨g', cap', hv, hgb⟩
            · rw [q] at hz; simp at hz
            · obtain ⟨rfl, rfl⟩ : A = some ⟨g', 0, none⟩ ∧ c2 = cap' := by simpa using hv
              obtain ⟨a0, _, _⟩ := OwnG.cellAt encI_len hown6.out 0 hz 0 (by omega) 0 rfl
              obtain ⟨a1, _, _⟩ := OwnG.cellAt encI_len hown6.out 0 hz 1 (by omega) 1 rfl
              obtain ⟨a2, _, _⟩ := OwnG.cellAt encI_len hown6.out 0 hz 2 (by omega) 2 rfl
              obtain ⟨a3, _, _⟩ := OwnG.cellAt encI_len hown6.out 0 hz 3 (by omega) 3 rfl
              have hs0 := hsh.out _ (List.getElem_mem hz)
              obtain ⟨x, hx⟩ : ∃ x, out[0] = x := ⟨_, rfl⟩
              rw [hx] at a0 a1 a2 a3 hs0
              obtain ⟨x0, x1, x2, x3⟩ := x
              rw [show (encI ⟨x0, x1, x2, x3⟩)[0]? = some (.string x0) from rfl] at a0
              rw [show (encI ⟨x0, x1, x2, x3⟩)[1]? = some (.string x1) from rfl] at a1
              rw [show (encI ⟨x0, x1, x2, x3⟩)[2]? = some (.string x2) from rfl] at a2
              rw [show (encI ⟨x0, x1, x2, x3⟩)[3]? = some (.int .i64 x3) from rfl] at a3
              have hs2 := Lib.hid (shortF_snoc hsh.out hs0)
              clear hx hv hs0
              go_wp2_with (at_builtin; refine app_item rfl (.tmp 39) (.tmp 43) rfl (g + 1) _ out x0 x1 x2 x3 rfl hown6.out hlt6 _ rfl rfl hl0 ?_; intro v7 w7 hown7 hg7; have hr7 := Lib.hid (rd_appG hr6 hown6.out hg7); have hown7 := Lib.hid hown7; clear hg7)
              go_ret
              exact ⟨v7, _, rfl, by simp; omega, hs2.out, hown7.out, hr7.out.more (by omega)⟩
          · go_wp2_with fail
            refine (item_draw W _ g (m + 75) 1 hr6 (by omega) (by omega) (by omega)).mono ?_
            rintro e w7 ⟨ky, ti, bo, da, rfl, hsi, hr7, hg7⟩
            have hown7 := Lib.hid (OwnG.row hown6.out hg7 (fun k e => by cases e; omega))
            have hlt7 := hr7.lt
            have hs2 := Lib.hid (shortF_snoc hsh.out hsi)
            clear hg7
            go_wp2_with (at_builtin; refine app_item rfl (.tmp 45) (.tmp 48) rfl (g + 1) _ out ky ti bo da rfl hown7.out hlt7 _ rfl rfl hl0 ?_; intro v8 w8 hown8 hg8; have hr8 := Lib.hid (rd_appG hr7 hown7.out hg8); have hown8 := Lib.hid hown8; clear hg8)
            go_ret
            exact ⟨v8, _, rfl, by simp; omega, hs2.out, hown8.out, hr8.out.more (by omega)⟩
        · have t0 : decide ((0 : Int) < (out.length : Int)) = false := decide_eq_false (by omega)
          go_wp2_with fail
          refine (item_draw W _ g (m + 74) 1 hr5 (by omega) (by omega) (by omega)).mono ?_
          rintro e w7 ⟨ky, ti, bo, da, rfl, hsi, hr7, hg7⟩
          have hown7 := Lib.hid (OwnG.row hown5.out hg7 (fun k e => by cases e; omega))
          have hlt7 := hr7.lt
          have hs2 := Lib.hid (shortF_snoc hsh.out hsi)
          clear hg7
          go_wp2_with (at_builtin; refine app_item rfl (.tmp 45) (.tmp 48) rfl (g + 1) _ out ky ti bo da rfl hown7.out hlt7 _ rfl rfl hl0 ?_; intro v8 w8 hown8 hg8; have hr8 := Lib.hid (rd_appG hr7 hown7.out hg8); have hown8 := Lib.hid hown8; clear hg8)
          go_ret
          exact ⟨v8, _, rfl, by simp; omega, hs2.out, hown8.out, hr8.out.more (by omega)⟩
    · have hpos : 0 < k := by omega
      have hr' := hr.out
      go_wp2_with fail
      refine (item_draw W _ g _ 0 hr' (by omega) (by omega) (by omega)).mono ?_
      rintro e w3 ⟨ky, ti, bo, da, rfl, hsi, hr3, hg3⟩
      have hown3 := Lib.hid (OwnG.row hown.out hg3 (fun k e => by cases e; omega))
      clear hg3 hr'
      obtain ⟨w4, hw4⟩ : ∃ w4, w3.alloc (.cells #[.string ky, .string ti, .string bo, .int .i64 da] 28) = w4 := ⟨_, rfl⟩
      have hr4 := Lib.hid (show Rd W w4 g _ by rw [← hw4]; exact hr3.alloc _)
      have hown4 : Hid (OwnF w4 (g + 1) _ _) := Lib.hid (by rw [← hw4]; exact OwnG.grown hown3.out ((Below.refl _ _).alloc (Nat.le_refl _) _))
      obtain ⟨d0, d1, d2, d3⟩ := row4 hw4 (Below.refl _ _)
      have hrw := Lib.hid (fun wX hX => row4 (wX := wX) hw4 hX)
      have hrd4 := Lib.hid (OwnG.rd hown4.out)
      have hlt4 : w3.heap.size < w4.heap.size := by rw [← hw4]; simp
      have hne4 : ¬ (w3.heap.size = w4.heap.size) := by omega
      have hss := Lib.hid (shortF_snoc hsh.out hsi)
      have hfs := Lib.hid (fit_shortF hss.out)
      have hll : ([] : List It).length + out.length ≤ 1073741824 := by simp; omega
      have hll2 : out.length + [(⟨ky, ti, bo, da⟩ : It)].length ≤ 1073741824 := by simp; omega
      have hgl : g + 1 ≤ w4.heap.size := by have := hr4.out.lt; omega
      go_upto_region 6 with fail
      go_cut [23] (fun s23 wx => s23 = .bool (fdB (out ++ [⟨ky, ti, bo, da⟩])) ∧ Hid (Below w4.heap.size w4 wx))
      case first =>
        go_region_law (first
          | (refine step_item rfl (.tmp 17) (.tmp 18) rfl w4.heap.size _ _ [] out rfl (by first | exact own_a w4 _ (Nat.le_refl _) | exact own_b w4 _ (Nat.le_refl _) _ | exact own_c w4 _ (Nat.le_refl _) _) (by simp <;> omega) rfl (by first | exact hrd4.out.below (bel_1 w4 _) | exact hrd4.out.below (bel_2 w4 _ _)) hll ?_; intro v7 w7 hown7 hg7; rw [List.nil_append] at hown7; (first | (have hg7 : World.grownBy _ w7 (some w4.heap.size) := hg7) | (have hg7 : World.grownBy _ w7 (some (w4.heap.size + 1)) := hg7)); have hB7 : Hid (Below w4.heap.size w4 w7) := Lib.hid (by first | exact (bel_1 w4 _).grown hg7 (by simp) (fun q hq => by cases hq; omega) | exact (bel_2 w4 _ _).grown hg7 (by simp <;> omega) (fun q hq => by cases hq; omega)); obtain ⟨e0, e1, e2, e3⟩ := hrw.out w7 hB7.out; (first | (have hL7 := rd_kept (lit_b w4 _ ky ti bo da) hg7 (by omega)) | (have hL7 := rd_kept (lit_c w4 _ ky ti bo da) hg7 (by omega)) | skip); clear hg7; have hown7 := Lib.hid hown7)
          | (refine step_item rfl (.tmp 19) (.tmp 21) rfl w4.heap.size _ _ out [⟨ky, ti, bo, da⟩] rfl (by first | exact hown7.out | exact OwnG.grown hown7.out ((Below.refl _ _).alloc (Nat.le_refl _) _)) (by first | exact hB7.out.size | exact Nat.le_trans hB7.out.size (by simp)) rfl (by first | exact hL7 | exact rd_lit1 w7 ⟨ky, ti, bo, da⟩ _) hll2 ?_; intro v8 w8 hown8 hg8; have hB8 : Hid (Below w4.heap.size w4 w8) := Lib.hid (by first | exact own_below hown7.out hB7.out hg8 | exact own_below (OwnG.grown hown7.out ((Below.refl _ _).alloc (Nat.le_refl _) _)) (hB7.out.alloc hB7.out.size _) hg8); clear hg8; have hown8 := Lib.hid hown8)
          | (go_simp; go_at_call 14; refine (fdS_valid _ _ _ (OwnG.rd hown8.out) hfs.out).mono ?_; rintro e w9 ⟨rfl, hb9⟩; have hB9 := Lib.hid (below_trans' hB8.out hb9); clear hb9; dsimp only))
        all_goals (go_wp2_with fail; go_meet; exact ⟨rfl, hB9⟩)
      case rest =>
        obtain ⟨hs23, hB9⟩ := hcut
        have hown9 := Lib.hid (OwnG.grown hown4.out hB9.out)
        have hr9 := Lib.hid (rd_below hr4.out hB9.out)
        clear d0 d1 d2 d3
        obtain ⟨d0, d1, d2, d3⟩ := hrw.out wc hB9.out
        rcases hF : fdB (out ++ [⟨ky, ti, bo, da⟩]) with _ | _ <;> rw [hF] at hs23 <;> subst hs23
        · go_wp2
          go_roundw
          case rel => exact ⟨k - 1, out, _, by omega, by go_num, rfl, by omega, hsh, hown9, Lib.hid (hr9.out.more (by omega))⟩
          case measure => simp [intOf]; omega
        · have hl : out.length ≤ 1073741824 := by omega
          have hlt9 := hr9.out.lt
          go_wp2_with (at_builtin; refine app_item rfl (.tmp 24) (.tmp 26) rfl (g + 1) _ out ky ti bo da rfl hown9.out hlt9 _ rfl rfl hl ?_; intro v7 w7 hown7 hg7; have hr7 := Lib.hid (rd_appG hr9.out hown9.out hg7); have hown7 := Lib.hid hown7; clear hg7)
          go_roundw
          case rel => exact ⟨k - 1, _, _, by omega, by go_num, rfl, by simp; omega, hss, hown7, Lib.hid (hr7.out.more (by omega))⟩
          case measure => simp [intOf]; omega
def DrawnF (w : World) (e : Ending) (w' : World) : Prop := ∃ (v : Value) (L : List It), e = .returned v ∧ L.length ≤ 7 ∧ ShortF L ∧ OwnF w' w.heap.size v L ∧ Below w.heap.size w w'
theorem drawFV_any (w : World) (A : Option Addr) (n c : Nat) (h : CodeArg w A n c) : Calls Try.prog 12 #[.slice A n c] w (DrawnF w) := by
  go_enter Try.func12, Try.ntmps12
  go_wp2_with (go_at_call 41; refine (open_any w A n c h).mono ?_; rintro e w2 ⟨rfl, hr2⟩)
  refine (feed_draw w w2 w.heap.size 0 2 hr2 (by omega) (by omega) (by omega)).mono ?_
  rintro e w3 ⟨v, L, rfl, h7, hsh, hown, hr3⟩
  go_wp2
  go_ret
  exact ⟨v, L, rfl, h7, hsh, OwnG.base hown (by omega), hr3.bel⟩
theorem drawFL_any (w : World) (A : Option Addr) (n c : Nat) (h : CodeArg w A n c) : Calls Try.prog 16 #[.slice A n c] w (DrawnF w) := by
  go_enter Try.func16, Try.ntmps16
  go_wp2_with (go_at_call 41; refine (open_any w A n c h).mono ?_; rintro e w2 ⟨rfl, hr2⟩)
  refine (feed_draw w w2 w.heap.size 0 6 hr2 (by omega) (by omega) (by omega)).mono ?_
  rintro e w3 ⟨v, L, rfl, h7, hsh, hown, hr3⟩
  go_wp2
  go_ret
  exact ⟨v, L, rfl, h7, hsh, OwnG.base hown (by omega), hr3.bel⟩
def DrawnFX (w : World) (e : Ending) (w' : World) : Prop := ∃ (v : Value) (L : List It) (n : ByteArray), e = .returned (.tuple #[v, .string n]) ∧ L.length ≤ 7 ∧ n.size ≤ 9 ∧ ShortF L ∧ OwnF w' w.heap.size v L ∧ Below w.heap.size w w'
theorem of_fkeys (v : Int) (h0 : 0 ≤ v) (h1 : v < 4) : ∃ s : ByteArray, s.size ≤ 9 ∧ (#[Value.string ⟨#[107, 49]⟩, Value.string ⟨#[107, 50]⟩, Value.string ⟨#[107, 51]⟩, Value.string ⟨#[110, 111, 110, 101]⟩] : Array Value)[v.toNat]? = some (.string s) ∧
    (∀ h : v.toNat < [Value.string ⟨#[107, 49]⟩, Value.string ⟨#[107, 50]⟩, Value.string ⟨#[107, 51]⟩, Value.string ⟨#[110, 111, 110, 101]⟩].length, [Value.string ⟨#[107, 49]⟩, Value.string ⟨#[107, 50]⟩, Value.string ⟨#[107, 51]⟩, Value.string ⟨#[110, 111, 110, 101]⟩][v.toNat] = .string s) := by
  obtain rfl | rfl | rfl | rfl : v = 0 ∨ v = 1 ∨ v = 2 ∨ v = 3 := by omega
  all_goals exact ⟨_, by decide, rfl, fun _ => rfl⟩
set_option maxRecDepth 100000 in
set_option maxHeartbeats 1000000 in
theorem drawFX_any (w : World) (A : Option Addr) (n c : Nat) (h : CodeArg w A n c) : Calls Try.prog 24 #[.slice A n c] w (DrawnFX w) := by
  go_enter Try.func24, Try.ntmps24
  go_wp2_with (go_at_call 41; refine (open_any w A n c h).mono ?_; rintro e w2 ⟨rfl, hr2⟩)
  refine (feed_draw w w2 w.heap.size 0 9 hr2 (by omega) (by omega) (by omega)).mono ?_
  rintro e w3 ⟨v, L, rfl, h9, hsh, hown, hr3⟩
  have hown := Lib.hid hown
  have hlt3 := hr3.lt
  go_wp2
  go_region_with (go_at_call 49; ((with_reducible refine (pick_any w _ w.heap.size (0 + 87) 4 (by first | exact hr3.drew | exact (hr3.alloc _).drew | exact hr3.drew.alloc _) (by omega)).mono ?_); rintro e w4 ⟨v4, a4, b4, _, rfl, hr4, hg4⟩; have b4 := b4 (by omega); obtain ⟨s4, hs4, hel, hel'⟩ := of_fkeys v4 a4 b4; have hown4 : Hid (OwnF w4 (w.heap.size + 1) v L) := Lib.hid (by first | exact OwnG.row (w := w3.drew) hown.out hg4 (fun k e => by cases e; omega) | exact OwnG.row (OwnG.grown hown.out (Below.drew ((Below.refl _ _).alloc (Nat.le_refl _) _))) hg4 (fun k e => by cases e; omega)); (first | (have k1 := kept_one hg4 hlt3 v4.toNat; rw [hel] at k1) | skip); clear hg4))
  all_goals
    go_wp2
    go_ret2
    first
      | exact ⟨v, L, s4, rfl, h9, hs4, hsh, OwnG.base hown4.out (by omega), hr4.bel⟩
      | exact ⟨v, L, s4, rfl, h9, hs4, hsh, OwnG.base (OwnG.grown hown4.out ((Below.refl _ _).alloc (Nat.le_refl _) _)) (by omega), hr4.bel.alloc hr4.bel.size _⟩
def DrawnLS (w : World) (e : Ending) (w' : World) : Prop := ∃ (v : Value) (LS : List ByteArray), e = .returned v ∧ LS.length ≤ 30 ∧ (∀ s ∈ LS, s.size ≤ 5000) ∧ OwnS w' w.heap.size v LS ∧ Below w.heap.size w w'
def Short5 (LS : List ByteArray) : Prop := ∀ s ∈ LS, s.size ≤ 5000
theorem short5_snoc {LS : List ByteArray} {s : ByteArray} (h : Short5 LS) (h' : s.size ≤ 5000) : Short5 (LS ++ [s]) := fun x m => by
  rcases List.mem_append.1 m with m | m
  · exact h x m
  · have : x = s := by simpa using m
    rw [this]; exact h'
theorem itT_size (i : It) : (bs (itT i)).size ≤ 5000 := by rw [bs_size]; have := itT_len i; omega
theorem fdL_short (L : List It) : Short5 (fdL L) := by
  intro s m
  unfold fdL at m
  split at m
  · obtain ⟨i, _, rfl⟩ := List.mem_map.1 m; exact itT_size i
  · simp at m
theorem fdL_len (L : List It) : (fdL L).length ≤ L.length := by
  unfold fdL; split <;> simp
theorem of_lit3 (x : ByteArray) (hx : x.size ≤ 5000) (v : Int) (h0 : 0 ≤ v) (h1 : v < 3) : ∃ s : ByteArray, s.size ≤ 5000 ∧ (#[Value.string ⟨#[]⟩, Value.string ⟨#[98, 97, 100]⟩, Value.string x] : Array Value)[v.toNat]? = some (.string s) ∧
    (∀ h : v.toNat < [Value.string ⟨#[]⟩, Value.string ⟨#[98, 97, 100]⟩, Value.string x].length, [Value.string ⟨#[]⟩, Value.string ⟨#[98, 97, 100]⟩, Value.string x][v.toNat] = .string s) := by
  obtain rfl | rfl | rfl : v = 0 ∨ v = 1 ∨ v = 2 := by omega
  · exact ⟨⟨#[]⟩, by decide, rfl, fun _ => rfl⟩
  · exact ⟨⟨#[98, 97, 100]⟩, by decide, rfl, fun _ => rfl⟩
  · exact ⟨x, hx, rfl, fun _ => rfl⟩
set_option maxRecDepth 100000 in
set_option maxHeartbeats 8000000 in
theorem drawRF_any (w : World) (A : Option Addr) (n c : Nat) (h : CodeArg w A n c) : Calls Try.prog 22 #[.slice A n c] w (DrawnLS w) := by
  go_enter Try.func22, Try.ntmps22
  go_wp2_with (go_at_call 41; refine (open_any w A n c h).mono ?_; rintro e w2 ⟨rfl, hr2⟩)
  refine (feed_draw w w2 w.heap.size 0 0 hr2 (by omega) (by omega) (by omega)).mono ?_
  rintro e w3 ⟨v, L, rfl, h7, hsh, hown, hr3⟩
  have hfit := fit_shortF hsh
  go_wp2_with fail
  refine (fdS_lines v L _ (OwnG.rd hown) hfit).mono ?_
  rintro e w4 ⟨v4, rfl, hown4, hb4⟩
  have hr4 := rd_below hr3 hb4
  have hlen4 : (fdL L).length ≤ 7 := Nat.le_trans (fdL_len L) h7
  have hown4 := Lib.hid (OwnG.base hown4 (B' := w.heap.size + 1) (by have := hr3.lt; omega))
  have hsh4 := Lib.hid (fdL_short L)
  obtain ⟨LS, hLS⟩ : ∃ LS, fdL L = LS := ⟨_, rfl⟩
  rw [hLS] at hown4 hsh4 hlen4
  clear hown hb4 hLS hsh hfit hr3
  go_wp2_with fail
  refine (pick_any w _ w.heap.size (0 + 87) 3 hr4 (by omega)).mono ?_
  rintro e w5 ⟨v5, a5, b5, _, rfl, hr5, hg5⟩
  have b5 := b5 (by omega)
  have hown5 := Lib.hid (OwnG.row hown4.out hg5 (fun k e => by cases e; omega))
  obtain ⟨j, rfl⟩ : ∃ j : Nat, v5 = j := ⟨v5.toNat, by omega⟩
  have hj : j ≤ 2 := by omega
  have hr5' := Lib.hid (hr5.more (m' := 88 + 13 * (2 - j)) (by omega))
  clear a5 b5 hg5 hr5 hr4
  go_wp2
  go_loopw [4, 5] (fun x i wr => ∃ (k : Nat) (M : List ByteArray) (y : Value), k ≤ 2 ∧ i = .int .i64 k ∧ y = x ∧ M.length + k ≤ 9 ∧ Hid (Short5 M) ∧ Hid (OwnS wr (w.heap.size + 1) y M) ∧ Hid (Rd w wr w.heap.size (88 + 13 * (2 - k)))) (fun x i _ => (intOf i).toNat)
  case atStart => exact ⟨j, LS, _, hj, rfl, rfl, by omega, hsh4, hown5, hr5'⟩
  case round =>
    obtain ⟨k, M, y, hk, rfl, rfl, hl, hsM, hown, hr⟩ := hrel
    obtain ⟨A2, c2, hy⟩ := OwnS.shape hown.out
    subst hy
    have hlM : M.length ≤ 1073741824 := by omega
    by_cases h0 : k = 0
    · subst h0
      have hr' := hr.out.more (m' := 120) (by omega)
      clear hr
      go_wp2_with fail
      refine (odd_any w _ w.heap.size 120 14 hr' (by omega) (by omega) (by omega)).mono ?_
      rintro e w6 ⟨b, rfl, hr6, hg6⟩
      have hown6 := Lib.hid (OwnG.row hown.out hg6 (fun k e => by cases e; omega))
      have hb6 := Lib.hid hr6.bel
      clear hg6
      rcases b with _ | _
      · go_wp2
        go_ret
        exact ⟨_, M, rfl, by omega, hsM.out, OwnG.base hown6.out (by omega), hb6.out⟩
      · clear hr6 hr' hown
        go_wp2
        go_loopw [4, 6] (fun x i wr => ∃ (q : Nat) (N : List ByteArray) (y : Value), q ≤ 9 ∧ i = .int .i64 q ∧ y = x ∧ N.length ≤ 9 + q ∧ Hid (Short5 N) ∧ Hid (OwnS wr w.heap.size y N) ∧ Hid (Below w.heap.size w wr)) (fun x i _ => 9 - (intOf i).toNat)
        case atStart => exact ⟨0, M, _, by omega, rfl, rfl, by omega, hsM, Lib.hid (OwnG.base hown6.out (by omega)), hb6⟩
        case round =>
          obtain ⟨q, N, y, hq, rfl, rfl, hlN, hsN, hownN, hbN⟩ := hrel
          obtain ⟨A3, c3, hy⟩ := OwnS.shape hownN.out
          subst hy
          by_cases hq9 : q ≤ 8
          · have hl2 : N.length ≤ 1073741824 := by omega
            go_wp2_with fail
            refine (smark_any q _).mono ?_
            rintro e w7 ⟨rfl, rfl⟩
            have hz := markT_len (q : Int)
            obtain ⟨mk, hmk⟩ : ∃ mk, bs (markT (q : Int)) = mk := ⟨_, rfl⟩
            have hmz : mk.size ≤ 6 := by rw [← hmk, bs_size]; exact hz
            rw [hmk]
            have z1 : (⟨#[109]⟩ : ByteArray).size = 1 := rfl
            have hcat : (⟨#[109]⟩ : ByteArray).size + mk.size ≤ 9223372036854775807 := by omega
            have hfi : FitI ⟨⟨#[109]⟩ ++ mk, ⟨#[116]⟩, ⟨#[]⟩, 0⟩ := ⟨by show (⟨#[109]⟩ ++ mk : ByteArray).size ≤ _; rw [ByteArray.size_append]; omega, by show (⟨#[116]⟩ : ByteArray).size ≤ 100000000; decide, by show (⟨#[]⟩ : ByteArray).size ≤ 100000000; decide⟩
            clear hz hmk
            go_wp2_with fail
            generalize (⟨#[109]⟩ ++ mk : ByteArray) = ky at hfi ⊢
            generalize (⟨#[116]⟩ : ByteArray) = ti at hfi ⊢
            generalize (⟨#[]⟩ : ByteArray) = bo at hfi ⊢
            refine (itS_text ky ti bo 0 _ hfi).mono ?_
            rintro e w8 ⟨rfl, hb8⟩
            have hown8 := Lib.hid (OwnG.grown hownN.out hb8)
            have hB8 := Lib.hid (below_trans' hbN.out hb8)
            have hx := itT_size ⟨ky, ti, bo, 0⟩
            obtain ⟨x, hxx⟩ : ∃ x, bs (itT ⟨ky, ti, bo, 0⟩) = x := ⟨_, rfl⟩
            rw [hxx] at hx ⊢
            have hss := Lib.hid (short5_snoc hsN.out hx)
            have hsz8 := hB8.out.size
            clear hb8 hxx
            go_wp2_with (at_builtin; refine app_str rfl (.tmp 35) (.tmp 41) rfl w.heap.size _ N x rfl hown8.out hsz8 _ rfl rfl hl2 ?_; intro v9 w9 hown9 hg9; have hB9 := Lib.hid (own_below hown8.out hB8.out hg9); have hown9 := Lib.hid hown9; clear hg9)
            go_roundw
            case rel => exact ⟨q + 1, _, _, by omega, by go_num, rfl, by simp; omega, hss, hown9, hB9⟩
            case measure => simp [intOf]; omega
          · go_wp2
            go_ret
            exact ⟨_, N, rfl, by omega, hsN.out, hownN.out, hbN.out⟩
    · have hpos : 0 < k := by omega
      go_wp2_with fail
      refine (item_draw w _ w.heap.size _ 0 hr.out (by omega) (by omega) (by omega)).mono ?_
      rintro e w6 ⟨ky, ti, bo, da, rfl, hsi, hr6, hg6⟩
      have hown6 := Lib.hid (OwnG.row hown.out hg6 (fun k e => by cases e; omega))
      clear hg6
      go_wp2_with fail
      refine (itS_text ky ti bo da _ (fit_shortI hsi)).mono ?_
      rintro e w7 ⟨rfl, hb7⟩
      have hr7 := rd_below hr6 hb7
      have hown7 := Lib.hid (OwnG.grown hown6.out hb7)
      have hx := itT_size ⟨ky, ti, bo, da⟩
      obtain ⟨x, hxx⟩ : ∃ x, bs (itT ⟨ky, ti, bo, da⟩) = x := ⟨_, rfl⟩
      rw [hxx] at hx ⊢
      have hlt7 := hr7.lt
      clear hb7 hxx hr6
      go_wp2_with fail
      refine (pick_any w _ w.heap.size _ 3 (hr7.alloc _) (by omega)).mono ?_
      rintro e w8 ⟨v8, a8, b8, _, rfl, hr8, hg8⟩
      have b8 := b8 (by omega)
      obtain ⟨s, hs, hel, hel'⟩ := of_lit3 x hx v8 a8 b8
      have hown8 := Lib.hid (OwnG.row (OwnG.grown hown7.out ((Below.refl _ _).alloc (Nat.le_refl _) _)) hg8 (fun k e => by cases e; omega))
      have k1 := cell_kept hg8 hlt7 v8.toNat
      rw [hel] at k1
      have hlt8 := hr8.lt
      have hss := Lib.hid (short5_snoc hsM.out hs)
      clear hg8
      go_wp2_with (at_builtin; refine app_str rfl (.tmp 18) (.tmp 27) rfl (w.heap.size + 1) _ M s rfl hown8.out hlt8 _ rfl rfl hlM ?_; intro v9 w9 hown9 hg9; have hr9 := Lib.hid (rd_appG hr8 hown8.out hg9); have hown9 := Lib.hid hown9; clear hg9)
      go_roundw
      case rel => exact ⟨k - 1, _, _, by omega, by go_num, rfl, by simp; omega, hss, hown9, Lib.hid (hr9.out.more (by omega))⟩
      case measure => simp [intOf]; omega
end Go.Proofs.Yteknjaocamlcpaa
