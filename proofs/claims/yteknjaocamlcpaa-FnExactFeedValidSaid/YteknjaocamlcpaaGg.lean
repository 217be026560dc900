/-
  The verifier's own text: RDateS.
-/
import Derived.Test.YteknjaocamlcpaaRows
import Derived.Test.YteknjaocamlcpaaGe
import Derived.Test.YteknjaocamlcpaaGf
import Derived.RegionTactic
import Derived.ChangeAlike
import Derived.WalkKit
import Derived.ProofKit
import Derived.Below
import Derived.Lib.Hide
import Derived.Outline
import Derived.BigQuiet
import Derived.Deep.QuietTactic
import Derived.Deep.Draws
import Derived.Laws.OwnMore
import Derived.Laws.Rows
import Derived.WalkSpells
import Derived.Deep.RegionWith
namespace Go.Proofs.Yteknjaocamlcpaa
open Go.RowKit
set_option linter.unusedVariables false
/-- the list of three -/
def L3 (w : World) (B : Nat) (s : Scn) : Prop := w.heap[B]? = some (.cells #[.int .i64 s.a, .int .i64 s.b, .int .i64 s.c] 3 (0, 0))
theorem l3_new (w : World) : L3 (w.alloc (.cells #[.int .i64 0, .int .i64 0, .int .i64 0] 3)) w.heap.size ⟨0, 0, 0, 0⟩ := heap_alloc_new w _
theorem l3_cell {w : World} {B : Nat} {s : Scn} (h : L3 w B s) : w.cell? ⟨B, 0, none⟩ = some (.int .i64 s.a) ∧ w.cell? ⟨B, 1, none⟩ = some (.int .i64 s.b) ∧ w.cell? ⟨B, 2, none⟩ = some (.int .i64 s.c) ∧ w.frozen? ⟨B, 0, none⟩ = false ∧ w.frozen? ⟨B, 1, none⟩ = false ∧ w.frozen? ⟨B, 2, none⟩ = false := by
  refine ⟨cell_of_row w B 0 _ _ (0, 0) h, cell_of_row w B 1 _ _ (0, 0) h, cell_of_row w B 2 _ _ (0, 0) h, ?_, ?_, ?_⟩ <;> simp [World.frozen?, show w.heap[B]? = _ from h]
theorem l3_set0 {w : World} {B t : Nat} {a b c v : Int} (h : L3 w B ⟨t, a, b, c⟩) : L3 (w.setCell ⟨B, 0, none⟩ (.int .i64 v)) B ⟨t, v, b, c⟩ := by
  unfold L3 at h ⊢; simp [World.setCell, Array.getElem?_modify, h]
theorem l3_set1 {w : World} {B t : Nat} {a b c v : Int} (h : L3 w B ⟨t, a, b, c⟩) : L3 (w.setCell ⟨B, 1, none⟩ (.int .i64 v)) B ⟨t, a, v, c⟩ := by
  unfold L3 at h ⊢; simp [World.setCell, Array.getElem?_modify, h]
theorem l3_set2 {w : World} {B t : Nat} {a b c v : Int} (h : L3 w B ⟨t, a, b, c⟩) : L3 (w.setCell ⟨B, 2, none⟩ (.int .i64 v)) B ⟨t, a, b, v⟩ := by
  unfold L3 at h ⊢; simp [World.setCell, Array.getElem?_modify, h]
theorem l3_drewN {w : World} {B n : Nat} {s : Scn} (h : L3 w B s) : L3 (w.drewN n) B s := h
theorem l3_drew {w : World} {B : Nat} {s : Scn} (h : L3 w B s) : L3 w.drew B s := h
theorem rdS_bad (s : ByteArray) (w : World) (hs : s.size ≤ maxLen) (h : s.size ≠ 10) :
    Calls Try.prog 77 #[.string s] w (GotInt (readD s.data.toList) w) := by
  unfold maxLen at hs
  have hr := Lib.hid (readD_bad (l := s.data.toList) (fun g => h (by have := g.len; rwa [blen] at this)))
  have t : ((s.size : Int) != 10) = true := by simp; omega
  clear h
  go_enter Try.func77, Try.ntmps77
  go_wp2
  go_ret
  exact ⟨ret_int hr.out.symm, Below.refl _ _⟩
set_option maxRecDepth 100000 in
set_option maxHeartbeats 2000000 in
theorem rdS_in (s : ByteArray) (w : World) (h : s.size = 10) :
    Calls Try.prog 77 #[.string s] w (GotInt (readD s.data.toList) w) := by
  have H := Lib.hid h
  have t : ((s.size : Int) != 10) = false := by simp [h]
  have hs : s.size ≤ 10 := by omega
  have hs2 : 10 ≤ s.size := by omega
  clear h
  go_enter Try.func77, Try.ntmps77
  go_wp2
  go_loopw [4, 5] (fun q i wr => ∃ (k t : Nat) (a b c : Int), k ≤ 10 ∧ i = .int .i64 k ∧ q = .int .i64 t ∧ Hid (scan (s.data.toList.take k) = ⟨t, a, b, c⟩) ∧ Hid (Scn.Bd ⟨t, a, b, c⟩ k) ∧ Hid (L3 wr w.heap.size ⟨t, a, b, c⟩) ∧ Hid (Below w.heap.size w wr)) (fun _ i _ => 10 - (intOf i).toNat)
  case atStart => exact ⟨0, 0, 0, 0, 0, by omega, rfl, rfl, Lib.hid rfl, Lib.hid ⟨by simp, by simp, by simp, by simp, by simp, by simp, by simp⟩, Lib.hid (l3_new w), Lib.hid ((Below.refl _ _).alloc (Nat.le_refl _) _)⟩
  case round =>
    obtain ⟨k, t', a, b, c, hk, rfl, rfl, hsc, hbd, hl3, hbw⟩ := hrel
    have p10' := pow10_le hk
    obtain ⟨g2, ga0, ga1, gb0, gb1, gc0, gc1⟩ := hbd.out
    have g2 : t' ≤ 2 := g2
    have ga0 : 0 ≤ a := ga0
    have ga1 : a ≤ 10000000000 := by have : a < 10 ^ k := ga1; omega
    have gb0 : 0 ≤ b := gb0
    have gb1 : b ≤ 10000000000 := by have : b < 10 ^ k := gb1; omega
    have gc0 : 0 ≤ c := gc0
    have gc1 : c ≤ 10000000000 := by have : c < 10 ^ k := gc1; omega
    obtain ⟨c0, c1, c2, f0, f1, f2⟩ := l3_cell hl3.out
    clear p10'
    by_cases hlt : k < 10
    · have hks : k < s.size := by omega
      have hnx : Hid (scan (s.data.toList.take (k + 1)) = (Scn.mk t' a b c).step s[k]) := Lib.hid (by rw [btake s k hks, scan_snoc, hsc.out])
      have hgk := Lib.hid (getD_byte s k hks)
      rcases hd : dcB s[k] with _ | _
      · by_cases hp : s[k] = 46 ∧ t' < 2
        · obtain ⟨hp1, hp2⟩ := hp
          have e46 : ((s[k].toNat : Int) == 46) = true := by rw [hp1]; rfl
          have hn2 : Hid (scan (s.data.toList.take (k + 1)) = ⟨t' + 1, a, b, c⟩) := Lib.hid (by rw [hnx.out, Scn.step_dot hp1 hp2]; rfl)
          have hb2 : Hid (Scn.Bd ⟨t' + 1, a, b, c⟩ (k + 1)) := Lib.hid (hbd.out.dot hp2)
          clear hd hp1 c0 c1 c2 f0 f1 f2
          go_wp2
          go_roundw
          case rel => exact ⟨k + 1, t' + 1, a, b, c, by omega, by go_num, by go_num, hn2, hb2, hl3, hbw⟩
          case measure => simp [intOf]; omega
        · have hr := Lib.hid (readD_stop (l := s.data.toList) k hlt (by rw [hgk.out]; exact hd) (by
            rw [hgk.out, hsc.out]
            by_cases q : s[k] = 46
            · exact .inr (by show 2 ≤ t'; rcases Nat.lt_or_ge t' 2 with x | x; exact absurd ⟨q, x⟩ hp; exact x)
            · exact .inl q))
          have e46 : ((s[k].toNat : Int) == 46) = false ∨ (((s[k].toNat : Int) == 46) = true ∧ decide ((t' : Int) < 2) = false) := by
            by_cases q : s[k] = 46
            · exact .inr ⟨by rw [q]; rfl, decide_eq_false (fun x => hp ⟨q, by omega⟩)⟩
            · refine .inl ?_
              rw [beq_eq_false_iff_ne]; intro e; exact q (UInt8.toNat_inj.1 (show s[k].toNat = 46 by omega))
          have hx : ¬ (48 ≤ (s[k].toNat : Int) ∧ (s[k].toNat : Int) ≤ 57) := by
            intro e; have := digI_true e.1 e.2; unfold dcB at hd; rw [this] at hd; cases hd
          have e57 : decide (48 ≤ (s[k].toNat : Int)) = false ∨ (decide (48 ≤ (s[k].toNat : Int)) = true ∧ decide ((s[k].toNat : Int) ≤ 57) = false) := by simp; omega
          clear hp hx hd c0 c1 c2 f0 f1 f2
          rcases e46 with e | ⟨e, e2⟩ <;> rcases e57 with d | ⟨d, d2⟩
          all_goals
            go_wp2
            go_ret
            exact ⟨ret_int hr.out.symm, hbw.out⟩
      · have e46 : ((s[k].toNat : Int) == 46) = false := by
          rw [beq_eq_false_iff_ne]; intro e; exact dc46 hd (UInt8.toNat_inj.1 (show s[k].toNat = 46 by omega))
        obtain ⟨d1, d2⟩ := digI_bd (n := (s[k].toNat : Int)) hd
        have hn2 : Hid (scan (s.data.toList.take (k + 1)) = (Scn.mk t' a b c).dig ((s[k].toNat : Int) - 48)) := Lib.hid (by rw [hnx.out, Scn.step_dig hd]; rfl)
        have hb2 : Hid (Scn.Bd ((Scn.mk t' a b c).dig ((s[k].toNat : Int) - 48)) (k + 1)) := Lib.hid (hbd.out.dig (by omega) (by omega))
        clear hd hnx
        obtain rfl | rfl | rfl : t' = 0 ∨ t' = 1 ∨ t' = 2 := by omega
        · go_wp2
          go_region
          all_goals
            go_wp2
            go_roundw
            case rel => exact ⟨k + 1, 0, _, b, c, by omega, by go_num, rfl, hn2, hb2, Lib.hid (l3_drew (l3_set0 hl3.out)), Lib.hid ((hbw.out.setCell (Nat.le_refl _) _).drew)⟩
            case measure => simp [intOf]; omega
        · go_wp2
          go_region
          all_goals
            go_wp2
            go_roundw
            case rel => exact ⟨k + 1, 1, a, _, c, by omega, by go_num, rfl, hn2, hb2, Lib.hid (l3_drew (l3_set1 hl3.out)), Lib.hid ((hbw.out.setCell (Nat.le_refl _) _).drew)⟩
            case measure => simp [intOf]; omega
        · go_wp2
          go_region
          all_goals
            go_wp2
            go_roundw
            case rel => exact ⟨k + 1, 2, a, b, _, by omega, by go_num, rfl, hn2, hb2, Lib.hid (l3_drew (l3_set2 hl3.out)), Lib.hid ((hbw.out.setCell (Nat.le_refl _) _).drew)⟩
            case measure => simp [intOf]; omega
    · have e : k = 10 := by omega
      subst e
      have hfs : Hid (scan s.data.toList = ⟨t', a, b, c⟩) := Lib.hid (by rw [← hsc.out, bfull s 10 (by rw [H.out]; omega)])
      have hne : s.size ≠ 0 := by omega
      have z1 := str_ne hne
      have z2 := str_full hne
      by_cases hneg : dayN a b c < 0
      · have hr := Lib.hid (readD_neg hfs.out hneg)
        go_wp2
        go_region_with (go_at_call 85; refine (dayS_any _ _ _ _).mono ?_; rintro e w3 ⟨rfl, hb3⟩)
        all_goals
          go_wp2
          go_ret
          exact ⟨ret_int hr.out.symm, (below_trans' hbw.out.drew hb3)⟩
      · by_cases he : bs (dateT (dayN a b c)) = s
        · have hr := Lib.hid (readD_same (l := s.data.toList) hneg (by rw [← he, bs_data]))
          have q1 := str_same he
          have he := Lib.hid he
          go_wp2
          go_region_with (go_at_call 85; refine (dayS_any _ _ _ _).mono ?_; rintro e w3 ⟨rfl, hb3⟩; have hb3 := Lib.hid (below_trans' hbw.out.drew hb3))
          all_goals
            go_wp2_with (go_at_call 63; refine (dateS_any _ _).mono ?_; rintro e w4 ⟨rfl, hb4⟩; have hb4 := Lib.hid (below_trans' hb3.out hb4))
            go_ret
            exact ⟨ret_int hr.out.symm, hb4.out⟩
        · have hr := Lib.hid (readD_diff hfs.out hneg (fun e => he (by rw [e, bs_list])))
          have q1 := str_other he
          have he := Lib.hid he
          go_wp2
          go_region_with (go_at_call 85; refine (dayS_any _ _ _ _).mono ?_; rintro e w3 ⟨rfl, hb3⟩; have hb3 := Lib.hid (below_trans' hbw.out.drew hb3))
          all_goals
            go_wp2_with (go_at_call 63; refine (dateS_any _ _).mono ?_; rintro e w4 ⟨rfl, hb4⟩; have hb4 := Lib.hid (below_trans' hb3.out hb4))
            go_ret
            exact ⟨ret_int hr.out.symm, hb4.out⟩
theorem rdS_any (s : ByteArray) (w : World) (hs : s.size ≤ maxLen) :
    Calls Try.prog 77 #[.string s] w (GotInt (readD s.data.toList) w) := by
  by_cases h : s.size = 10
  · exact rdS_in s w h
  · exact rdS_bad s w hs h
end Go.Proofs.Yteknjaocamlcpaa
