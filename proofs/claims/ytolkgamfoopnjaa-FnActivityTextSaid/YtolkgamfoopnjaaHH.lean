/-
  The verifier's own text: WordsS AyS1 AyS2 AyS3.
-/
import Derived.Test.YtolkgamfoopnjaaRows
import Derived.Test.YtolkgamfoopnjaaHG
import Derived.Test.YtolkgamfoopnjaaGq
import Derived.Test.YtolkgamfoopnjaaGa
import Derived.Test.YtolkgamfoopnjaaHA
import Derived.Test.YtolkgamfoopnjaaGc
import Derived.Test.YtolkgamfoopnjaaMarkS
import Derived.Test.YtolkgamfoopnjaaHC
import Derived.Deep.RegionHeld3
import Derived.WalkKit
import Derived.ProofKit
import Derived.Below
import Derived.Lib.Hide
import Derived.Outline
import Derived.BigQuiet
import Derived.Deep.QuietTactic
import Derived.Deep.Draws
import Derived.Laws.OwnMore
import Derived.Laws.Rows
import Derived.WalkSpells
import Derived.Deep.RegionWith
namespace Go.Proofs.Ytolkgamfoopnjaa
open Go.RowKit
set_option linter.unusedVariables false
/-- an append of one text to a list, also to a long one -/
theorem app_strB {ops : Array Oper} {rest : List Oper} {o : Oper} {a : Act} {Q : Exit → Act → World → Prop} {w : World} (hgd : o.guard = none) (s x : Operand)
    (ho : o.op = .call { callee := .builtin .append, args := #[s, x], argTypes := #[40, 40] }) (B : Nat) (v : Value) (L : List ByteArray) (t : ByteArray) (hs : a.eval s = v)
    (hown : OwnS w B v L) (hB : B ≤ w.heap.size) (g : Nat) (hgz : w.heap.size = g) (hx : a.eval x = .slice (some ⟨g, 0, none⟩) 1 1) (hl : L.length ≤ 4294967296)
    (h : ∀ v' w', OwnS w' B v' (L ++ [t]) → w.grownBy w' v.ownBlock → wpList Try.prog ops Q rest (a.put o.dst v') w') : wpList Try.prog ops Q (o :: rest) a (w.alloc (.cells #[.string t] 9)) := by
  subst hgz
  obtain ⟨i0, hi, hz0, hz1, hz2⟩ := info_parts infoS
  refine wpList_append_own (w := w.alloc (.cells #[.string t] 9)) hgd s x 40 ho B 9 i0 _ 1 16 Try.underlying40 hi hz0 hz1 hz2 rfl (by decide) v L.length _ hs (World.ownsRow.alloc hown _) ⟨w.heap.size, 0, none⟩ 1 1 [.string t] hx (by simp) ?_ (by simp [Value.oneCell']) ?_ ?_ ?_ ?_
  · intro j u hj
    have : (⟨w.heap.size, 0, none⟩ : Addr).add j = ⟨w.heap.size, j, none⟩ := by unfold Addr.add; split <;> simp_all
    rw [this, World.cell?_alloc_new]; simpa using hj
  · unfold maxLen; omega
  · omega
  · simp; omega
  · intro v' w' h1 h2 _
    refine h v' w' ?_ (grown_trans (grown_alloc w _ _) h2)
    unfold OwnS OwnG
    rw [List.length_append, List.flatMap_append]
    simpa [encS] using h1
/-- texts as lists of bytes -/
def wsL (L : List ByteArray) : List (List UInt8) := L.map fun s => s.data.toList
/-- the words of a text, in memory of one's own -/
def GotWs (s : List UInt8) (w : World) (e : Ending) (w' : World) : Prop := ∃ (v : Value) (M : List ByteArray), e = .returned v ∧ OwnS w' w.heap.size v M ∧ wsL M = wdS s ∧ Below w.heap.size w w'
theorem ws_next {s : ByteArray} {k : Nat} (hk : k < s.size) {N : List ByteArray} {x : ByteArray} (h : wsL (N ++ [x]) = wdS (s.data.toList.take k)) :
    (s[k] = 32 → wsL (N ++ [x] ++ [⟨#[]⟩]) = wdS (s.data.toList.take (k + 1))) ∧ (s[k] ≠ 32 → wsL (N ++ [x ++ s.extract k (k + 1)]) = wdS (s.data.toList.take (k + 1))) := by
  obtain ⟨M, y, h1, h2⟩ := wdS_snoc (s.data.toList.take k) s[k]
  rw [← btake s k hk] at h2
  rw [h1] at h
  have hx : wsL (N ++ [x]) = wsL N ++ [x.data.toList] := by simp [wsL]
  rw [hx] at h
  obtain ⟨e1, e2⟩ := List.append_inj' h rfl
  have e2 : x.data.toList = y := by simpa using e2
  have hz : ∀ t : ByteArray, wsL (N ++ [t]) = wsL N ++ [t.data.toList] := fun t => by simp [wsL]
  refine ⟨fun q => ?_, fun q => ?_⟩
  · rw [h2, if_pos q, ← e1, ← e2]; simp [wsL]
  · rw [h2, if_neg q, ← e1, ← e2, hz]
    have : (x ++ s.extract k (k + 1)).data.toList = x.data.toList ++ [s[k]] := by rw [ext1 s k hk]; simp [bs]
    rw [this]
theorem ws_size {s x : ByteArray} {k : Nat} {N : List ByteArray} (h : wsL (N ++ [x]) = wdS (s.data.toList.take k)) : x.size ≤ k := by
  have : x.data.toList ∈ wsL (N ++ [x]) := by simp [wsL]
  rw [h] at this
  have := wdS_mem _ _ this
  rw [blen, List.length_take] at this; omega
theorem ws_count {s : ByteArray} {k : Nat} {N : List ByteArray} {x : ByteArray} (h : wsL (N ++ [x]) = wdS (s.data.toList.take k)) : N.length ≤ k := by
  have h1 := congrArg List.length h
  have := wdS_len (s.data.toList.take k)
  rw [List.length_take] at this
  unfold wsL at h1
  rw [List.length_map, List.length_append] at h1
  simp at h1; omega
theorem ownS_one (w : World) (t : ByteArray) : OwnS (w.alloc (.cells #[.string t] 9)) w.heap.size (.slice (some ⟨w.heap.size, 0, none⟩) 1 1) [t] := by
  have := World.ownsRow_lit (e := 9) (size := 1) (base := w.heap.size) w #[.string t] 1 (Nat.le_refl _) (by simp [maxLen]) rfl
  exact this
theorem ayB_kind {a : Ay} (h : inB a.kind 0 5 = false) : ayB a = false := by unfold ayB; unfold inB at h; rw [h]; rfl
theorem ayB_num {a : Ay} (h : inB a.num 0 1000000000 = false) : ayB a = false := by unfold ayB; unfold inB at h; rw [h]; simp
theorem ayB_who {a : Ay} (h : hnB a.who = false) : ayB a = false := by unfold ayB; rw [h]; simp
theorem ayB_what {a : Ay} (h : wordB a.what.data.toList = false) : ayB a = false := by unfold ayB; rw [h]; simp
theorem ayB_all {a : Ay} (h0 : inB a.kind 0 5 = true) (h1 : inB a.num 0 1000000000 = true) (h2 : hnB a.who = true) (h3 : wordB a.what.data.toList = true) : ayB a = true := by
  unfold ayB; unfold inB at h0 h1; rw [h0, h1, h2, h3]; rfl
set_option maxRecDepth 100000 in
set_option maxHeartbeats 2000000 in
theorem ayS_valid (kind num : Int) (a b t : ByteArray) (w : World) (ma : a.size ≤ maxLen) (mb : b.size ≤ maxLen) (mt : t.size ≤ maxLen) :
    Calls Try.prog 7 #[.agg #[.int .i64 kind, .int .i64 num, .string a, .string b, .string t]] w (GotB (ayB ⟨kind, num, ⟨a, b⟩, t⟩) w) := by
  obtain ⟨w1, hw1⟩ : ∃ w1, w.alloc (.cells #[.int .i64 kind, .int .i64 num, .string a, .string b, .string t] 26) = w1 := ⟨_, rfl⟩
  have hB1 : Hid (Below w.heap.size w w1) := Lib.hid (by rw [← hw1]; exact (Below.refl _ _).alloc (Nat.le_refl _) _)
  have hrow := Lib.hid (fun wX (hX : Below w1.heap.size w1 wX) => row5 hw1 hX)
  obtain ⟨y0, y1, y2, y3, y4⟩ := hrow.out w1 (Below.refl _ _)
  rcases hk : inB kind 0 5 with _ | _
  · have HR := Lib.hid (ayB_kind (a := ⟨kind, num, ⟨a, b⟩, t⟩) hk)
    have H0 := Lib.hid hk
    clear hk
    go_enter Try.func7, Try.ntmps7
    go_wp2_with (go_at_call 20; refine (l1In_any kind 0 5 _).mono ?_; rintro e w' ⟨rfl, rfl⟩; rw [H0.out])
    go_ret
    exact ⟨ret_bool HR.out.symm, hB1.out⟩
  · have H0 := Lib.hid hk
    rcases hn : inB num 0 1000000000 with _ | _
    · have HR := Lib.hid (ayB_num (a := ⟨kind, num, ⟨a, b⟩, t⟩) hn)
      have H1 := Lib.hid hn
      clear hk hn
      go_enter Try.func7, Try.ntmps7
      go_wp2_with (first | (go_at_call 20; ((with_reducible refine (l1In_any kind 0 5 _).mono ?_); rintro e w' ⟨rfl, rfl⟩; rw [H0.out])) | (go_at_call 20; ((with_reducible refine (l1In_any num 0 1000000000 _).mono ?_); rintro e w' ⟨rfl, rfl⟩; rw [H1.out])))
      go_ret
      exact ⟨ret_bool HR.out.symm, hB1.out⟩
    · have H1 := Lib.hid hn
      go_enter Try.func7, Try.ntmps7
      go_wp2_with (first | (go_at_call 20; ((with_reducible refine (l1In_any kind 0 5 _).mono ?_); rintro e w' ⟨rfl, rfl⟩; rw [H0.out])) | (go_at_call 20; ((with_reducible refine (l1In_any num 0 1000000000 _).mono ?_); rintro e w' ⟨rfl, rfl⟩; rw [H1.out])) | fail)
      refine (hnS_validM a b _ ma mb).mono ?_
      rintro e w3 ⟨rfl, hb3⟩
      have hB3 := Lib.hid (below_trans' hB1.out hb3)
      clear y0 y1 y2 y3 y4
      obtain ⟨y0, y1, y2, y3, y4⟩ := hrow.out w3 hb3
      clear hb3
      rcases hh : hnB ⟨a, b⟩ with _ | _
      · have HR := Lib.hid (ayB_who (a := ⟨kind, num, ⟨a, b⟩, t⟩) hh)
        clear hk hn hh
        go_wp2
        go_ret
        exact ⟨ret_bool HR.out.symm, hB3.out⟩
      · rcases hw : wordB t.data.toList with _ | _
        · have HR := Lib.hid (ayB_what (a := ⟨kind, num, ⟨a, b⟩, t⟩) hw)
          have HW := Lib.hid hw
          clear hk hn hh hw
          go_wp2_with (go_at_call 22; refine (sword_any t _ mt).mono ?_; rintro e w' ⟨rfl, rfl⟩; rw [HW.out])
          go_ret
          exact ⟨ret_bool HR.out.symm, hB3.out⟩
        · have HR := Lib.hid (ayB_all (a := ⟨kind, num, ⟨a, b⟩, t⟩) hk hn hh hw)
          have HW := Lib.hid hw
          clear hk hn hh hw
          go_wp2_with (go_at_call 22; refine (sword_any t _ mt).mono ?_; rintro e w' ⟨rfl, rfl⟩; rw [HW.out])
          go_ret
          exact ⟨ret_bool HR.out.symm, hB3.out⟩
/-- the words of the kinds as texts -/
def kwB (k : Int) : ByteArray := bs (kwT k)
theorem kwS_any (w : World) :
    Calls Try.prog 17 #[] w fun e w' => e = .returned (.slice (some ⟨w.heap.size, 0, none⟩) 6 6) ∧ w.alloc (.cells #[.string (kwB 0), .string (kwB 1), .string (kwB 2), .string (kwB 3), .string (kwB 4), .string (kwB 5)] 9) = w' := by
  go_enter Try.func17, Try.ntmps17
  go_wp2
  go_ret
  exact ⟨rfl, rfl⟩
theorem kw_cell {w w1 wX : World} {k : Int} (h : 0 ≤ k ∧ k ≤ 5) (hw : w.alloc (.cells #[.string (kwB 0), .string (kwB 1), .string (kwB 2), .string (kwB 3), .string (kwB 4), .string (kwB 5)] 9) = w1) (hB : Below w1.heap.size w1 wX) :
    wX.cell? ⟨w.heap.size, k.toNat, none⟩ = some (.string (kwB k)) := by
  obtain ⟨c0, c1, c2, c3, c4, c5⟩ := row6 hw hB
  obtain rfl | rfl | rfl | rfl | rfl | rfl := six h <;> assumption
/-- what the operations of the region yield -/
def QAyT (bx : Nat) (kind num : Int) (a b t : ByteArray) (j : Nat) (v : Value) (w : World) : Prop :=
  match j with
  | 0 => ∃ g : Nat, v = .slice (some ⟨g, 0, none⟩) 6 6 ∧ w.cell? ⟨g, kind.toNat, none⟩ = some (.string (kwB kind)) ∧ g < w.heap.size
  | 1 => v = .pointer (some ⟨bx, 0, none⟩)
  | 2 => v = .int .i64 kind
  | 3 => ∃ g : Nat, v = .pointer (some ⟨g, kind.toNat, none⟩) ∧ w.cell? ⟨g, kind.toNat, none⟩ = some (.string (kwB kind)) ∧ g < w.heap.size
  | 4 => v = .string (kwB kind)
  | 5 => v = .string (kwB kind ++ ⟨#[32]⟩)
  | 6 => v = .pointer (some ⟨bx, 1, none⟩)
  | 7 => v = .int .i64 num
  | 8 => v = .string (bs (markT num))
  | 9 => v = .string (kwB kind ++ ⟨#[32]⟩ ++ bs (markT num))
  | 10 => v = .string (kwB kind ++ ⟨#[32]⟩ ++ bs (markT num) ++ ⟨#[32]⟩)
  | 11 => v = .pointer (some ⟨bx, 2, none⟩)
  | 12 => v = .agg #[.string a, .string b]
  | 13 => v = .string (bs (hnT ⟨a, b⟩))
  | 14 => v = .string (kwB kind ++ ⟨#[32]⟩ ++ bs (markT num) ++ ⟨#[32]⟩ ++ bs (hnT ⟨a, b⟩))
  | 15 => v = .string (kwB kind ++ ⟨#[32]⟩ ++ bs (markT num) ++ ⟨#[32]⟩ ++ bs (hnT ⟨a, b⟩) ++ ⟨#[32]⟩)
  | 16 => v = .pointer (some ⟨bx, 4, none⟩)
  | 17 => v = .string t
  | 18 => v = .string (kwB kind ++ ⟨#[32]⟩ ++ bs (markT num) ++ ⟨#[32]⟩ ++ bs (hnT ⟨a, b⟩) ++ ⟨#[32]⟩ ++ t)
  | 19 => v = .string (kwB kind ++ ⟨#[32]⟩ ++ bs (markT num) ++ ⟨#[32]⟩ ++ bs (hnT ⟨a, b⟩) ++ ⟨#[32]⟩ ++ t)
  | _ => False
theorem QAyT_mono {bx : Nat} {kind num : Int} {a b t : ByteArray} (j : Nat) (v : Value) (w w' : World) (_ : j < 20) (h : QAyT bx kind num a b t j v w) (hb : Below w.heap.size w w') : QAyT bx kind num a b t j v w' := by
  match j, h with
  | 0, h => obtain ⟨g, h1, h2, h3⟩ := h; exact ⟨g, h1, by rw [hb.cell (p := ⟨g, kind.toNat, none⟩) h3]; exact h2, Nat.lt_of_lt_of_le h3 hb.size⟩
  | 1, h => exact h
  | 2, h => exact h
  | 3, h => obtain ⟨g, h1, h2, h3⟩ := h; exact ⟨g, h1, by rw [hb.cell (p := ⟨g, kind.toNat, none⟩) h3]; exact h2, Nat.lt_of_lt_of_le h3 hb.size⟩
  | 4, h => exact h
  | 5, h => exact h
  | 6, h => exact h
  | 7, h => exact h
  | 8, h => exact h
  | 9, h => exact h
  | 10, h => exact h
  | 11, h => exact h
  | 12, h => exact h
  | 13, h => exact h
  | 14, h => exact h
  | 15, h => exact h
  | 16, h => exact h
  | 17, h => exact h
  | 18, h => exact h
  | 19, h => exact h
theorem ay_bytes (k n : Int) (a b t : ByteArray) (h : hnB ⟨a, b⟩ = true) : (kwB k ++ ⟨#[32]⟩ ++ bs (markT n) ++ ⟨#[32]⟩ ++ bs (hnT ⟨a, b⟩) ++ ⟨#[32]⟩ ++ t : ByteArray) = bs (ayT1 ⟨k, n, ⟨a, b⟩, t⟩) := by
  apply ByteArray.ext; apply Array.toList_inj.1
  rw [bs_data, hnT_in h]
  simp [ayT1, kwB, bs]
set_option maxRecDepth 100000 in
set_option maxHeartbeats 4000000 in
theorem ayS_text (kind num : Int) (a b t : ByteArray) (w : World) (hf : FitAy ⟨kind, num, ⟨a, b⟩, t⟩) :
    Calls Try.prog 6 #[.agg #[.int .i64 kind, .int .i64 num, .string a, .string b, .string t]] w (GotStr (ayT ⟨kind, num, ⟨a, b⟩, t⟩) w) := by
  obtain ⟨fa, fb, ft⟩ := hf
  simp only at fa fb ft
  obtain ⟨w1, hw1⟩ : ∃ w1, w.alloc (.cells #[.int .i64 kind, .int .i64 num, .string a, .string b, .string t] 26) = w1 := ⟨_, rfl⟩
  have hB1 : Hid (Below w.heap.size w w1) := Lib.hid (by rw [← hw1]; exact (Below.refl _ _).alloc (Nat.le_refl _) _)
  have hrow := Lib.hid (fun wX (hX : Below w1.heap.size w1 wX) => row5 hw1 hX)
  obtain ⟨y0, y1, y2, y3, y4⟩ := hrow.out w1 (Below.refl _ _)
  go_enter Try.func6, Try.ntmps6
  go_wp2_with fail
  have hw1 := Lib.hid hw1
  refine (ayS_valid kind num a b t _ (fit_max fa) (fit_max fb) (fit_max ft)).mono ?_
  rintro e w2 ⟨rfl, hb2⟩
  have hK2 := Lib.hid hb2
  clear y0 y1 y2 y3 y4 hb2
  rcases hi : ayB ⟨kind, num, ⟨a, b⟩, t⟩ with _ | _
  · have HR := Lib.hid (ayT_out hi)
    clear hi
    go_wp2
    go_ret
    exact ⟨by rw [HR.out]; rfl, below_trans' hB1.out hK2.out⟩
  · obtain ⟨hk, hn, hh, hw⟩ := ayB_of hi
    have HR : Hid (ayT ⟨kind, num, ⟨a, b⟩, t⟩ = ayT1 ⟨kind, num, ⟨a, b⟩, t⟩) := Lib.hid (ayT_in hi)
    have hfh : FitHn ⟨a, b⟩ := fitHn_of hh
    have HT := Lib.hid (ay_bytes kind num a b t hh)
    have HC := Lib.hid (fun (wA wB wX : World) e h => kw_cell (w := wA) (w1 := wB) (wX := wX) hk e h)
    simp only at hk hn
    have i0 : (0 : Int) ≤ kind := hk.1
    have i1 : kind < 6 := by omega
    have i2 : kind.toNat < 6 := by omega
    have z0 : (kwB kind).size ≤ 6 := by unfold kwB; rw [bs_size]; exact kwT_len hk
    have z1 : (bs (markT num)).size ≤ 6 := by rw [bs_size]; exact markT_len num
    have z2 : (bs (hnT ⟨a, b⟩)).size ≤ 18 := by rw [bs_size]; exact hnT_len _
    have z3 : (⟨#[32]⟩ : ByteArray).size = 1 := rfl
    have n0 : ¬ (9223372036854775807 < (kwB kind).size + 1) := by omega
    have n1 : ¬ (9223372036854775807 < (kwB kind).size + 1 + (bs (markT num)).size) := by omega
    have n2 : ¬ (9223372036854775807 < (kwB kind).size + 1 + (bs (markT num)).size + 1) := by omega
    have n3 : ¬ (9223372036854775807 < (kwB kind).size + 1 + (bs (markT num)).size + 1 + (bs (hnT ⟨a, b⟩)).size) := by omega
    have n4 : ¬ (9223372036854775807 < (kwB kind).size + 1 + (bs (markT num)).size + 1 + (bs (hnT ⟨a, b⟩)).size + 1) := by omega
    have n5 : ¬ (9223372036854775807 < (kwB kind).size + 1 + (bs (markT num)).size + 1 + (bs (hnT ⟨a, b⟩)).size + 1 + t.size) := by omega
    have hrow2 := Lib.hid (fun wX (hX : Below w2.heap.size w2 wX) => hrow.out wX (below_trans' hK2.out hX))
    clear hi hn hh hw z0 z1 z2 z3
    go_wp2_with fail
    obtain ⟨Fr, hFr⟩ : ∃ Fr : (Nat → Value) → Act, Fr = (fun x => { tmps := #[.agg #[.int .i64 kind, .int .i64 num, .string a, .string b, .string t], .pointer (some ⟨w.heap.size, 0, none⟩), x 19, .agg #[.int .i64 kind, .int .i64 num, .string a, .string b, .string t], .bool true, .bool false, x 0, x 1, x 2, x 3, x 4, x 5, x 6, x 7, x 8, x 9, x 10, x 11, x 12, x 13, x 14, x 15, x 16, x 17, x 18], defers := [] }) := ⟨_, rfl⟩
    refine calm_region (n := 20) (by kernel_rfl) rfl Fr (QAyT w.heap.size kind num a b t) (by kernel_rfl) (fun j => if j = 19 then .string ⟨#[]⟩ else undef) (by rw [hFr]; rfl) QAyT_mono ?_ ?_
    · intro i o f x w4 hi ho hf hp hG hQ K hK
      subst hFr
      obtain rfl | rfl | rfl | rfl | rfl | rfl | rfl | rfl | rfl | rfl | rfl | rfl | rfl | rfl | rfl | rfl | rfl | rfl | rfl | rfl : i = 0 ∨ i = 1 ∨ i = 2 ∨ i = 3 ∨ i = 4 ∨ i = 5 ∨ i = 6 ∨ i = 7 ∨ i = 8 ∨ i = 9 ∨ i = 10 ∨ i = 11 ∨ i = 12 ∨ i = 13 ∨ i = 14 ∨ i = 15 ∨ i = 16 ∨ i = 17 ∨ i = 18 ∨ i = 19 := by omega
      · simp at ho
        subst ho
        rw [if_pos (by rfl)]
        go_simp
        refine (kwS_any _).mono ?_
        rintro e w5 ⟨rfl, hw5⟩
        have key := hK _ _ ⟨_, rfl, kw_cell hk hw5 (Below.refl _ _), by rw [← hw5]; simp⟩ (by rw [← hw5]; exact (Below.refl _ _).alloc (Nat.le_refl _) _)
        simp [setX] at key
        exact key
      · simp at ho
        subst ho
        rw [if_pos (by rfl)]
        go_simp
        have key := hK _ _ rfl (Below.refl _ _)
        simp [setX] at key
        exact key
      · simp at ho
        subst ho
        have p1 : f 1 = true := hp { on := 1, ground := .data } (by simp) rfl
        have q1 := hQ 1 (by omega) p1
        have q1 : x 1 = .pointer (some ⟨w.heap.size, 0, none⟩) := q1
        obtain ⟨y0, y1, y2, y3, y4⟩ := hrow2.out w4 hG
        rw [if_pos (by rfl)]
        go_simp
        have key := hK _ _ rfl (Below.refl _ _)
        simp [setX, q1] at key
        exact key
      · simp at ho
        subst ho
        have p0 : f 0 = true := hp { on := 0, ground := .data } (by simp) rfl
        have q0 := hQ 0 (by omega) p0
        obtain ⟨g0, h0, c0, l0⟩ := q0
        have p2 : f 2 = true := hp { on := 2, ground := .data } (by simp) rfl
        have q2 := hQ 2 (by omega) p2
        have q2 : x 2 = .int .i64 kind := q2
        rw [if_pos (by rfl)]
        go_simp
        have key := hK _ _ ⟨g0, rfl, c0, l0⟩ (Below.refl _ _)
        simp [setX, h0, q2] at key
        exact key
      · simp at ho
        subst ho
        have p3 : f 3 = true := hp { on := 3, ground := .data } (by simp) rfl
        have q3 := hQ 3 (by omega) p3
        obtain ⟨g3, h3, c3, l3⟩ := q3
        rw [if_pos (by rfl)]
        go_simp
        have key := hK _ _ rfl (Below.refl _ _)
        simp [setX, h3] at key
        exact key
      · simp at ho
        subst ho
        have p4 : f 4 = true := hp { on := 4, ground := .data } (by simp) rfl
        have q4 := hQ 4 (by omega) p4
        have q4 : x 4 = .string (kwB kind) := q4
        rw [if_pos (by rfl)]
        go_simp
        have key := hK _ _ rfl (Below.refl _ _)
        simp [setX, q4] at key
        exact key
      · simp at ho
        subst ho
        rw [if_pos (by rfl)]
        go_simp
        have key := hK _ _ rfl (Below.refl _ _)
        simp [setX] at key
        exact key
      · simp at ho
        subst ho
        have p6 : f 6 = true := hp { on := 6, ground := .data } (by simp) rfl
        have q6 := hQ 6 (by omega) p6
        have q6 : x 6 = .pointer (some ⟨w.heap.size, 1, none⟩) := q6
        obtain ⟨y0, y1, y2, y3, y4⟩ := hrow2.out w4 hG
        rw [if_pos (by rfl)]
        go_simp
        have key := hK _ _ rfl (Below.refl _ _)
        simp [setX, q6] at key
        exact key
      · simp at ho
        subst ho
        have p7 : f 7 = true := hp { on := 7, ground := .data } (by simp) rfl
        have q7 := hQ 7 (by omega) p7
        have q7 : x 7 = .int .i64 num := q7
        rw [if_pos (by rfl)]
        go_simp
        refine (smark_any num _).mono ?_
        rintro e w5 ⟨rfl, rfl⟩
        have key := hK _ _ rfl (Below.refl _ _)
        simp [setX, q7] at key
        exact key
      · simp at ho
        subst ho
        have p5 : f 5 = true := hp { on := 5, ground := .data } (by simp) rfl
        have q5 := hQ 5 (by omega) p5
        have q5 : x 5 = .string (kwB kind ++ ⟨#[32]⟩) := q5
        have p8 : f 8 = true := hp { on := 8, ground := .data } (by simp) rfl
        have q8 := hQ 8 (by omega) p8
        have q8 : x 8 = .string (bs (markT num)) := q8
        rw [if_pos (by rfl)]
        go_simp
        have key := hK _ _ rfl (Below.refl _ _)
        simp [setX, q5, q8] at key
        exact key
      · simp at ho
        subst ho
        have p9 : f 9 = true := hp { on := 9, ground := .data } (by simp) rfl
        have q9 := hQ 9 (by omega) p9
        have q9 : x 9 = .string (kwB kind ++ ⟨#[32]⟩ ++ bs (markT num)) := q9
        rw [if_pos (by rfl)]
        go_simp
        have key := hK _ _ rfl (Below.refl _ _)
        simp [setX, q9] at key
        exact key
      · simp at ho
        subst ho
        rw [if_pos (by rfl)]
        go_simp
        have key := hK _ _ rfl (Below.refl _ _)
        simp [setX] at key
        exact key
      · simp at ho
        subst ho
        have p11 : f 11 = true := hp { on := 11, ground := .data } (by simp) rfl
        have q11 := hQ 11 (by omega) p11
        have q11 : x 11 = .pointer (some ⟨w.heap.size, 2, none⟩) := q11
        obtain ⟨y0, y1, y2, y3, y4⟩ := hrow2.out w4 hG
        rw [if_pos (by rfl)]
        go_simp
        have key := hK _ _ rfl (Below.refl _ _)
        simp [setX, q11] at key
        exact key
      · simp at ho
        subst ho
        have p12 : f 12 = true := hp { on := 12, ground := .data } (by simp) rfl
        have q12 := hQ 12 (by omega) p12
        have q12 : x 12 = .agg #[.string a, .string b] := q12
        rw [if_pos (by rfl)]
        go_simp
        refine (hnS_text a b _ hfh).mono ?_
        rintro e w5 ⟨rfl, hb5⟩
        have key := hK _ _ rfl hb5
        simp [setX, q12] at key
        exact key
      · simp at ho
        subst ho
        have p10 : f 10 = true := hp { on := 10, ground := .data } (by simp) rfl
        have q10 := hQ 10 (by omega) p10
        have q10 : x 10 = .string (kwB kind ++ ⟨#[32]⟩ ++ bs (markT num) ++ ⟨#[32]⟩) := q10
        have p13 : f 13 = true := hp { on := 13, ground := .data } (by simp) rfl
        have q13 := hQ 13 (by omega) p13
        have q13 : x 13 = .string (bs (hnT ⟨a, b⟩)) := q13
        rw [if_pos (by rfl)]
        go_simp
        have key := hK _ _ rfl (Below.refl _ _)
        simp [setX, q10, q13] at key
        exact key
      · simp at ho
        subst ho
        have p14 : f 14 = true := hp { on := 14, ground := .data } (by simp) rfl
        have q14 := hQ 14 (by omega) p14
        have q14 : x 14 = .string (kwB kind ++ ⟨#[32]⟩ ++ bs (markT num) ++ ⟨#[32]⟩ ++ bs (hnT ⟨a, b⟩)) := q14
        rw [if_pos (by rfl)]
        go_simp
        have key := hK _ _ rfl (Below.refl _ _)
        simp [setX, q14] at key
        exact key
      · simp at ho
        subst ho
        rw [if_pos (by rfl)]
        go_simp
        have key := hK _ _ rfl (Below.refl _ _)
        simp [setX] at key
        exact key
      · simp at ho
        subst ho
        have p16 : f 16 = true := hp { on := 16, ground := .data } (by simp) rfl
        have q16 := hQ 16 (by omega) p16
        have q16 : x 16 = .pointer (some ⟨w.heap.size, 4, none⟩) := q16
        obtain ⟨y0, y1, y2, y3, y4⟩ := hrow2.out w4 hG
        rw [if_pos (by rfl)]
        go_simp
        have key := hK _ _ rfl (Below.refl _ _)
        simp [setX, q16] at key
        exact key
      · simp at ho
        subst ho
        have p15 : f 15 = true := hp { on := 15, ground := .data } (by simp) rfl
        have q15 := hQ 15 (by omega) p15
        have q15 : x 15 = .string (kwB kind ++ ⟨#[32]⟩ ++ bs (markT num) ++ ⟨#[32]⟩ ++ bs (hnT ⟨a, b⟩) ++ ⟨#[32]⟩) := q15
        have p17 : f 17 = true := hp { on := 17, ground := .data } (by simp) rfl
        have q17 := hQ 17 (by omega) p17
        have q17 : x 17 = .string t := q17
        rw [if_pos (by rfl)]
        go_simp
        have key := hK _ _ rfl (Below.refl _ _)
        simp [setX, q15, q17] at key
        exact key
      · simp at ho
        subst ho
        have p18 : f 18 = true := hp { on := 18, ground := .data } (by simp) rfl
        have q18 := hQ 18 (by omega) p18
        have q18 : x 18 = .string (kwB kind ++ ⟨#[32]⟩ ++ bs (markT num) ++ ⟨#[32]⟩ ++ bs (hnT ⟨a, b⟩) ++ ⟨#[32]⟩ ++ t) := q18
        rw [if_pos (by rfl)]
        go_simp
        have key := hK _ _ rfl (Below.refl _ _)
        simp [setX, q18] at key
        exact key
    · intro x w4 hG hQ
      subst hFr
      have q19 : x 19 = .string (kwB kind ++ ⟨#[32]⟩ ++ bs (markT num) ++ ⟨#[32]⟩ ++ bs (hnT ⟨a, b⟩) ++ ⟨#[32]⟩ ++ t) := hQ 19 (by omega)
      have HX := hG
      clear hQ
      go_wp2
      go_ret
      exact ⟨by rw [HR.out, ← HT.out]; show Ending.returned (x 19) = _; rw [q19], below_trans' (below_trans' hB1.out hK2.out) HX⟩
/-- a new variable is not frozen -/
theorem frz {w w1 wX : World} {cs : Array Value} {T : TypeId} (hw : w.alloc (.cells cs T) = w1) (hB : Below w1.heap.size w1 wX) : ∀ j, wX.frozen? ⟨w.heap.size, j, none⟩ = false := fun j => by
  subst hw
  have hX := (hB.block w.heap.size (by simp)).trans (heap_alloc_new w (.cells cs T))
  simp [World.frozen?, hX]
/-- an activity and whether -/
def GotAy (P : Ay × Bool) (w : World) (e : Ending) (w' : World) : Prop := e = .returned (.tuple #[aggAy P.1, .bool P.2]) ∧ Below w.heap.size w w'
theorem unD_inv {a : Ay} {n : Int} (h : ayB a = false) : unD a n = (Ay.zero, false) := unD_no (fun q => by rw [h] at q; cases q.1)
theorem unD_num {a : Ay} {n : Int} (h : inB n 0 1000000000 = false) : unD a n = (Ay.zero, false) := unD_no (fun q => by
  rw [inB_true q.2.1.1 q.2.1.2] at h; cases h)
theorem inB_of {n lo hi : Int} (h : inB n lo hi = true) : lo ≤ n ∧ n ≤ hi := of_decide_eq_true h
/-- the kind after k words of kinds -/
def kwP (a : List UInt8) (k : Nat) : Int := if 0 ≤ kwI a ∧ kwI a < k then kwI a else -1
theorem kwP_zero (a : List UInt8) : kwP a 0 = -1 := by unfold kwP; rw [if_neg (by omega)]
theorem kwP_six (a : List UInt8) : kwP a 6 = kwI a := by
  unfold kwP
  by_cases h : 0 ≤ kwI a
  · rw [if_pos ⟨h, by have := (kwI_of h).1; omega⟩]
  · rw [if_neg (by omega)]
    have : -1 ≤ kwI a := by unfold kwI; repeat' split <;> omega
    omega
theorem kwP_yes {A : ByteArray} {k : Nat} (hk : k ≤ 5) (h : kwB k = A) : kwP A.data.toList (k + 1) = k := by
  have e : kwI A.data.toList = k := by rw [← h]; unfold kwB; rw [bs_data]; exact kwI_T ⟨by omega, by omega⟩
  unfold kwP; rw [e, if_pos ⟨by omega, by omega⟩]
theorem kwP_no {A : ByteArray} {k : Nat} (hk : k ≤ 5) (h : kwB k ≠ A) : kwP A.data.toList (k + 1) = kwP A.data.toList k := by
  have e : kwI A.data.toList ≠ k := fun e => h (by
    have := (kwI_of (l := A.data.toList) (by omega)).2
    rw [e] at this
    unfold kwB; rw [this]; rfl)
  unfold kwP
  by_cases q : 0 ≤ kwI A.data.toList ∧ kwI A.data.toList < k
  · rw [if_pos q, if_pos ⟨q.1, by omega⟩]
  · rw [if_neg q, if_neg (by omega)]
theorem four {M : List ByteArray} (h : M.length = 4) : ∃ A B C D, M = [A, B, C, D] := by
  match M, h with
  | [A, B, C, D], _ => exact ⟨A, B, C, D, rfl⟩
/-- what the operations of the region yield -/
def QAyR (g cap k : Nat) (A : ByteArray) (bq : Bool) (j : Nat) (v : Value) (w : World) : Prop :=
  match j with
  | 0 => ∃ q : Nat, v = .slice (some ⟨q, 0, none⟩) 6 6 ∧ w.cell? ⟨q, k, none⟩ = some (.string (kwB k)) ∧ q < w.heap.size
  | 1 => v = .int .i64 k
  | 2 => ∃ q : Nat, v = .pointer (some ⟨q, k, none⟩) ∧ w.cell? ⟨q, k, none⟩ = some (.string (kwB k)) ∧ q < w.heap.size
  | 3 => v = .string (kwB k)
  | 4 => v = .slice (some ⟨g, 0, none⟩) 4 cap
  | 5 => v = .pointer (some ⟨g, 0, none⟩)
  | 6 => v = .string A
  | 7 => v = .bool bq
  | _ => False
theorem QAyR_mono {g cap k : Nat} {A : ByteArray} {bq : Bool} (j : Nat) (v : Value) (w w' : World) (_ : j < 8) (h : QAyR g cap k A bq j v w) (hb : Below w.heap.size w w') : QAyR g cap k A bq j v w' := by
  match j, h with
  | 0, h => obtain ⟨q, h1, h2, h3⟩ := h; exact ⟨q, h1, by rw [hb.cell (p := ⟨q, k, none⟩) h3]; exact h2, Nat.lt_of_lt_of_le h3 hb.size⟩
  | 1, h => exact h
  | 2, h => obtain ⟨q, h1, h2, h3⟩ := h; exact ⟨q, h1, by rw [hb.cell (p := ⟨q, k, none⟩) h3]; exact h2, Nat.lt_of_lt_of_le h3 hb.size⟩
  | 3, h => exact h
  | 4, h => exact h
  | 5, h => exact h
  | 6, h => exact h
  | 7, h => exact h
end Go.Proofs.Ytolkgamfoopnjaa
