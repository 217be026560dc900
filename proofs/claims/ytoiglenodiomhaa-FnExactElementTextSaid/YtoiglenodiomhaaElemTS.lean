/-
  The verifier's own text: ElemTS.
-/
import Derived.Test.YtoiglenodiomhaaRows
import Derived.Test.YtoiglenodiomhaaElemS
import Derived.Test.YtoiglenodiomhaaEscS
import Derived.Test.YtoiglenodiomhaaQuiet
import Derived.WalkKit
import Derived.ProofKit
import Derived.Below
import Derived.Lib.Hide
import Derived.Outline
import Derived.BigQuiet
import Derived.Deep.QuietTactic
import Derived.Deep.Draws
import Derived.Laws.OwnMore
import Derived.Laws.Rows
import Derived.WalkSpells
import Derived.Deep.RegionWith
namespace Go.Proofs.Ytoiglenodiomhaa
open Go.RowKit
set_option linter.unusedVariables false
set_option maxHeartbeats 400000 in
theorem elS_find (v : Value) (L : EL) (n : ByteArray) (w : World) (h : RdG encE w v L) (hf : FitE L) :
    Calls Try.prog 24 #[v, .string n] w fun e w' => e = .returned (.tuple #[.string (elX L n).1, .bool (elX L n).2]) ∧ w = w' := by
  have hv := elS_valid v L
  by_cases hL : L = []
  · subst hL
    obtain ⟨A, c, rfl, hc⟩ := h.nil
    clear hv
    go_enter Try.func24, Try.ntmps24
    go_wp2
    refine wp_loop_rounds 1 ?_
    rw [rounds_succ]; go_wp2
    go_ret2
    exact ⟨rfl, rfl⟩
  · have hpos : 0 < L.length := List.length_pos_iff.2 hL
    obtain ⟨b, o, c, rfl, h1, h2, hb, h4⟩ := h.some hL
    unfold maxLen at h2
    have hcells := Lib.hid (fun k (hk : k < L.length) => rdE_cells h4 hk)
    clear h4 hL
    rcases hB : elB L with _ | _
    · have HB := Lib.hid hB
      have HR := Lib.hid (elX_out n hB)
      clear hB
      go_enter Try.func24, Try.ntmps24
      go_wp2
      refine wp_loop_rounds 1 ?_
      rw [rounds_succ]
      go_wp2_with (go_at_call 13; refine (hv _ h hf).mono ?_; rintro e w' ⟨rfl, rfl⟩; rw [HB.out])
      go_ret2
      exact ⟨by rw [HR.out]; rfl, rfl⟩
    · have HB := Lib.hid hB
      have HX := Lib.hid (elX_in n hB)
      clear hB
      go_enter Try.func24, Try.ntmps24
      go_wp2
      go_loop [6] (fun i => ∃ k : Nat, k ≤ L.length ∧ i = .int .i64 k ∧ Hid (∀ i (hi : i < L.length), i < k → L[i].1 ≠ n)) (fun i => L.length - (intOf i).toNat)
      case atStart => exact ⟨0, Nat.zero_le _, rfl, Lib.hid (by intro i hi h; omega)⟩
      case round =>
        obtain ⟨k, hk, rfl, hp⟩ := hrel
        by_cases hlt : k < L.length
        · obtain ⟨c0, c1⟩ := hcells.out k hlt
          have hat := fun q => elX1_at (n := n) hlt hp.out q
          have hno : L[k].1 ≠ n → ∀ i (hi : i < L.length), i < k + 1 → L[i].1 ≠ n := fun q i hi hik => by
            by_cases e : i = k
            · subst e; exact q
            · exact hp.out i hi (by omega)
          obtain ⟨e, he⟩ : ∃ e, L[k] = e := ⟨_, rfl⟩
          rw [he] at c0 c1 hat hno
          obtain ⟨nm, tx⟩ := e
          simp only at c0 c1 hat hno
          by_cases hn : nm = n
          · have HR := Lib.hid (hat hn)
            have q := str_same hn
            clear hat hno he hn
            go_wp2_with (go_at_call 13; refine (hv _ h hf).mono ?_; rintro e w' ⟨rfl, rfl⟩; rw [HB.out])
            go_ret2
            exact ⟨by rw [HX.out, HR.out]; rfl, rfl⟩
          · have HN := Lib.hid (hno hn)
            have q := str_other hn
            clear hat hno he hn
            go_wp2_with (go_at_call 13; refine (hv _ h hf).mono ?_; rintro e w' ⟨rfl, rfl⟩; rw [HB.out])
            go_round
            case rel => exact ⟨k + 1, by omega, by go_num, HN⟩
            case measure => simp [intOf]; omega
        · have HR := Lib.hid (elX1_none (L := L) (n := n) (fun i hi => hp.out i hi (by omega)))
          go_wp2
          go_ret2
          exact ⟨by rw [HX.out, HR.out]; rfl, rfl⟩
def elP (l : List UInt8) (e : ByteArray × ByteArray) : ByteArray := bs l ++ ⟨#[60]⟩ ++ e.1 ++ ⟨#[62]⟩ ++ bs (escT e.2.data.toList) ++ ⟨#[60, 47]⟩ ++ e.1 ++ ⟨#[62]⟩
theorem el_cat (l : List UInt8) (e : ByteArray × ByteArray) : elP l e = bs (l ++ elT1 e) := by
  apply ByteArray.ext; apply Array.toList_inj.1
  simp [elP, bs, elT1]
/-- no sum of the lengths is too great -/
theorem el_sums (l : List UInt8) (n t : ByteArray) (hl : l.length ≤ 100000) (hn : n.size ≤ 100000000) :
    (bs l).size + (⟨#[60]⟩ : ByteArray).size ≤ 9223372036854775807 ∧ (bs l ++ ⟨#[60]⟩).size + n.size ≤ 9223372036854775807 ∧ (bs l ++ ⟨#[60]⟩ ++ n).size + (⟨#[62]⟩ : ByteArray).size ≤ 9223372036854775807 ∧
    (bs l ++ ⟨#[60]⟩ ++ n ++ ⟨#[62]⟩).size + (bs (escT t.data.toList)).size ≤ 9223372036854775807 ∧ (bs l ++ ⟨#[60]⟩ ++ n ++ ⟨#[62]⟩ ++ bs (escT t.data.toList)).size + (⟨#[60, 47]⟩ : ByteArray).size ≤ 9223372036854775807 ∧
    (bs l ++ ⟨#[60]⟩ ++ n ++ ⟨#[62]⟩ ++ bs (escT t.data.toList) ++ ⟨#[60, 47]⟩).size + n.size ≤ 9223372036854775807 ∧ (bs l ++ ⟨#[60]⟩ ++ n ++ ⟨#[62]⟩ ++ bs (escT t.data.toList) ++ ⟨#[60, 47]⟩ ++ n).size + (⟨#[62]⟩ : ByteArray).size ≤ 9223372036854775807 := by
  have h1 : (bs l).size = l.length := rfl
  have h2 : (⟨#[60]⟩ : ByteArray).size = 1 := rfl
  have h3 : (⟨#[62]⟩ : ByteArray).size = 1 := rfl
  have h4 : (⟨#[60, 47]⟩ : ByteArray).size = 2 := rfl
  have h5 : (bs (escT t.data.toList)).size ≤ 480 := by rw [bs_size]; exact escT_len _
  simp only [ByteArray.size_append]
  omega
set_option maxHeartbeats 1000000 in
theorem elS_text (v : Value) (L : EL) (w : World) (h : RdG encE w v L) (hf : FitE L) :
    Calls Try.prog 17 #[v] w (Quiet (.string (bs (elT L))) w) := by
  by_cases hL : L = []
  · subst hL
    obtain ⟨A, c, rfl, hc⟩ := h.nil
    go_enter Try.func17, Try.ntmps17
    go_wp2
    refine wp_loop_rounds 1 ?_
    rw [rounds_succ]; go_wp2
    go_ret
    exact ⟨rfl, 0, rfl⟩
  · have hpos : 0 < L.length := List.length_pos_iff.2 hL
    have hv := elS_valid v L
    have hrd : ∀ m, RdG encE (w.drewN m) v L := fun m => h.below (below_drewN w m)
    obtain ⟨b, o, c, rfl, h1, h2, hb, h4⟩ := h.some hL
    unfold maxLen at h2
    have hcells := Lib.hid (fun k (hk : k < L.length) => rdE_cells h4 hk)
    clear h4 hL
    rcases hB : elB L with _ | _
    · have HB := Lib.hid hB
      have HR := Lib.hid (elT_out hB)
      clear hB
      go_enter Try.func17, Try.ntmps17
      go_wp2
      refine wp_loop_rounds 1 ?_
      rw [rounds_succ]
      go_wp2_with (go_at_call 13; refine (hv _ h hf).mono ?_; rintro e w' ⟨rfl, rfl⟩; rw [HB.out])
      go_ret
      exact ⟨by rw [HR.out]; rfl, 0, rfl⟩
    · have HB := Lib.hid hB
      have HX := Lib.hid (elT_in hB)
      have h8 := elB_len hB
      have hmem := Lib.hid (elB_mem hB)
      clear hB
      go_enter Try.func17, Try.ntmps17
      go_wp2
      go_loopw [3, 4] (fun t i wr => ∃ (k : Nat) (l : List UInt8), k ≤ L.length ∧ i = .int .i64 k ∧ t = .string (bs l) ∧ l.length ≤ 501 * k ∧ Hid (l = elL (L.take k)) ∧ Hid (∃ m, wr = w.drewN m)) (fun _ i _ => L.length - (intOf i).toNat)
      case atStart => exact ⟨0, [], Nat.zero_le _, rfl, rfl, by simp, Lib.hid rfl, Lib.hid ⟨0, rfl⟩⟩
      case round =>
        obtain ⟨k, l, hk, rfl, rfl, hl, hp, hw⟩ := hrel
        have hrr : RdG encE wr (.slice (some ⟨b, o, none⟩) L.length c) L := by obtain ⟨m, hm⟩ := hw.out; rw [hm]; exact hrd m
        by_cases hlt : k < L.length
        · have hcw : wr.cell? ⟨b, o + k * 2, none⟩ = some (.string L[k].1) ∧ wr.cell? ⟨b, o + k * 2 + 1, none⟩ = some (.string L[k].2) := by
            obtain ⟨m, hm⟩ := hw.out; rw [hm]; exact hcells.out k hlt
          obtain ⟨c0, c1⟩ := hcw
          obtain ⟨f0, f1⟩ := hf _ (List.getElem_mem hlt)
          have hN := Lib.hid (elL_take hlt)
          have h501 := elT1_len (hmem.out _ (List.getElem_mem hlt))
          obtain ⟨e, he⟩ : ∃ e, L[k] = e := ⟨_, rfl⟩
          rw [he] at c0 c1 f0 f1 hN h501
          have hcat := Lib.hid (el_cat l e)
          obtain ⟨nm, tx⟩ := e
          simp only at c0 c1 f0 f1
          have m1 : tx.size ≤ maxLen := by unfold maxLen; omega
          obtain ⟨s1, s2, s3, s4, s5, s6, s7⟩ := el_sums l nm tx (by omega) f0
          have hlen : (l ++ elT1 (nm, tx)).length ≤ 501 * (k + 1) := by rw [List.length_append]; omega
          clear he h501
          have hj : (k : Int) < (L.length : Int) := by omega
          go_wp2_with (go_at_call 13; refine (hv _ hrr hf).mono ?_; rintro e w' ⟨rfl, rfl⟩; rw [HB.out])
          go_quiet ((go_at_call 39; exact quiet_eq (escS_any _ _ m1)))
          go_wp2
          go_roundw
          case rel => exact ⟨k + 1, l ++ elT1 (nm, tx), by omega, by go_num, by rw [← hcat.out]; rfl, hlen, Lib.hid (by rw [hN.out, ← hp.out]), Lib.hid (by obtain ⟨m, hm⟩ := hw.out; exact ⟨_, by rw [hm, drewN_add]⟩)⟩
          case measure => simp [intOf]; omega
        · have hr' : Hid (elT L = l) := Lib.hid (by rw [HX.out, hp.out, List.take_of_length_le (by omega)])
          go_wp2
          go_ret
          exact ⟨by rw [hr'.out]; rfl, hw.out⟩
end Go.Proofs.Ytoiglenodiomhaa
