/-
  The verifier's own text: ElemTI.
-/
import Derived.Test.YtoiglenodiomhaaRows
import Derived.Test.YtoiglenodiomhaaElemVI
import Derived.Test.YtoiglenodiomhaaEscI
import Derived.Test.YtoiglenodiomhaaPlaceI
import Derived.Deep.RegionHeld3
import Derived.WalkKit
import Derived.ProofKit
import Derived.Below
import Derived.Lib.Hide
import Derived.Outline
import Derived.BigQuiet
import Derived.Deep.QuietTactic
import Derived.Deep.Draws
import Derived.Laws.OwnMore
import Derived.Laws.Rows
import Derived.WalkSpells
import Derived.Deep.RegionWith
namespace Go.Proofs.Ytoiglenodiomhaa
open Go.RowKit
set_option linter.unusedVariables false
def elQ (l : List UInt8) (e : ByteArray × ByteArray) : ByteArray := bs l ++ (⟨#[60]⟩ ++ e.1 ++ ⟨#[62]⟩) ++ bs (escT e.2.data.toList) ++ (⟨#[60, 47]⟩ ++ e.1 ++ ⟨#[62]⟩)
theorem elQ_cat (l : List UInt8) (e : ByteArray × ByteArray) : elQ l e = bs (l ++ elT1 e) := by
  apply ByteArray.ext; apply Array.toList_inj.1
  simp [elQ, bs, elT1]
theorem elQ_sums (l : List UInt8) (n t : ByteArray) (hl : l.length ≤ 100000) (hn : n.size ≤ 100000000) :
    (bs l).size + (⟨#[60]⟩ ++ n ++ ⟨#[62]⟩ : ByteArray).size ≤ 9223372036854775807 ∧ (bs l ++ (⟨#[60]⟩ ++ n ++ ⟨#[62]⟩)).size + (bs (escT t.data.toList)).size ≤ 9223372036854775807 ∧
    (bs l ++ (⟨#[60]⟩ ++ n ++ ⟨#[62]⟩) ++ bs (escT t.data.toList)).size + (⟨#[60, 47]⟩ ++ n ++ ⟨#[62]⟩ : ByteArray).size ≤ 9223372036854775807 := by
  have h1 : (bs l).size = l.length := rfl
  have h2 : (⟨#[60]⟩ : ByteArray).size = 1 := rfl
  have h3 : (⟨#[62]⟩ : ByteArray).size = 1 := rfl
  have h4 : (⟨#[60, 47]⟩ : ByteArray).size = 2 := rfl
  have h5 : (bs (escT t.data.toList)).size ≤ 480 := by rw [bs_size]; exact escT_len _
  simp only [ByteArray.size_append]
  omega
theorem keepE {W w2 w3 : World} {g : Nat} {nm tx : ByteArray} (h0 : w2.cell? ⟨g, 0, none⟩ = some (.string nm)) (h1 : w2.cell? ⟨g, 1, none⟩ = some (.string tx)) (h : Hid (g < w2.heap.size ∧ Below W.heap.size W w2)) (hb : Below w2.heap.size w2 w3) :
    w3.cell? ⟨g, 0, none⟩ = some (.string nm) ∧ w3.cell? ⟨g, 1, none⟩ = some (.string tx) ∧ Hid (g < w3.heap.size ∧ Below W.heap.size W w3) :=
  ⟨by rw [hb.cell (p := ⟨g, 0, none⟩) h.out.1]; exact h0, by rw [hb.cell (p := ⟨g, 1, none⟩) h.out.1]; exact h1, Lib.hid ⟨Nat.lt_of_lt_of_le h.out.1 hb.size, below_trans' h.out.2 hb⟩⟩
theorem startE {W w : World} {nm tx : ByteArray} {t : TypeId} (hb : Below W.heap.size W w) :
    (w.alloc (.cells #[.string nm, .string tx] t)).drew.cell? ⟨w.heap.size, 0, none⟩ = some (.string nm) ∧ (w.alloc (.cells #[.string nm, .string tx] t)).drew.cell? ⟨w.heap.size, 1, none⟩ = some (.string tx) ∧
    Hid (w.heap.size < (w.alloc (.cells #[.string nm, .string tx] t)).drew.heap.size ∧ Below W.heap.size W (w.alloc (.cells #[.string nm, .string tx] t)).drew) :=
  ⟨World.cell?_alloc_new w _ _ 0, World.cell?_alloc_new w _ _ 1, Lib.hid ⟨by show _ < (w.alloc _).heap.size; simp, Below.drew (hb.alloc hb.size _)⟩⟩
set_option maxHeartbeats 2000000 in
theorem elI_text (v : Value) (L : EL) (w : World) (h : RdG encE w v L) (hf : FitE L) :
    Calls Try.prog 16 #[v] w (GotStr (elT L) w) := by
  have hv := Lib.hid (elI_valid v L w h hf)
  rcases hB : elB L with _ | _
  · have HB := Lib.hid hB
    have HR := Lib.hid (elT_out hB)
    clear hB
    go_enter Try.func16, Try.ntmps16
    go_wp2_with (go_at_call 12; refine hv.out.mono ?_; rintro e w1 ⟨rfl, hb1⟩; rw [HB.out])
    go_ret
    exact ⟨by rw [HR.out]; rfl, hb1⟩
  · have HB := Lib.hid hB
    have HX := Lib.hid (elT_in hB)
    have h8 := elB_len hB
    have hmem := Lib.hid (elB_mem hB)
    clear hB
    by_cases hL : L = []
    · subst hL
      obtain ⟨A, c, rfl, hc⟩ := h.nil
      go_enter Try.func16, Try.ntmps16
      go_wp2_with (go_at_call 12; refine hv.out.mono ?_; rintro e w1 ⟨rfl, hb1⟩; rw [HB.out])
      refine wp_loop_rounds 1 ?_
      rw [rounds_succ]; go_wp2
      go_ret
      exact ⟨rfl, hb1⟩
    · obtain ⟨b, o, c, rfl, h1, h2, hb, h4⟩ := h.some hL
      unfold maxLen at h2
      have hcells := Lib.hid (fun k (hk : k < L.length) => rdE_cells h4 hk)
      clear h4 hL
      go_enter Try.func16, Try.ntmps16
      go_wp2_with (go_at_call 12; refine hv.out.mono ?_; rintro e w1 ⟨rfl, hb1⟩; rw [HB.out]; have hb1 := Lib.hid hb1)
      go_loopw [3, 11] (fun t i wr => ∃ (k : Nat) (l : List UInt8), k ≤ L.length ∧ i = .int .i64 k ∧ t = .string (bs l) ∧ l.length ≤ 501 * k ∧ Hid (l = elL (L.take k)) ∧ Hid (Below w.heap.size w wr)) (fun _ i _ => L.length - (intOf i).toNat)
      case atStart => exact ⟨0, [], Nat.zero_le _, rfl, rfl, by simp, Lib.hid rfl, hb1⟩
      case round =>
        obtain ⟨k, l, hk, rfl, rfl, hl, hp, hbr⟩ := hrel
        by_cases hlt : k < L.length
        · obtain ⟨c0, c1⟩ := hcells.out k hlt
          rw [← hbr.out.cell (p := ⟨b, o + k * 2, none⟩) hb] at c0
          rw [← hbr.out.cell (p := ⟨b, o + k * 2 + 1, none⟩) hb] at c1
          obtain ⟨f0, f1⟩ := hf _ (List.getElem_mem hlt)
          have hN := Lib.hid (elL_take hlt)
          have h501 := elT1_len (hmem.out _ (List.getElem_mem hlt))
          obtain ⟨e, he⟩ : ∃ e, L[k] = e := ⟨_, rfl⟩
          rw [he] at c0 c1 f0 f1 hN h501
          have hcat := Lib.hid (elQ_cat l e)
          obtain ⟨nm, tx⟩ := e
          simp only at c0 c1 f0 f1
          have m1 : tx.size ≤ maxLen := by unfold maxLen; omega
          obtain ⟨s1, s2, s3⟩ := elQ_sums l nm tx (by omega) f0
          have n1 := s1
          have n2 := s2
          have n3 := s3
          simp [go_sem] at n1 n2 n3
          have n1 := Nat.not_lt.2 n1
          have n2 := Nat.not_lt.2 n2
          have n3 := Nat.not_lt.2 n3
          have hlen : (l ++ elT1 (nm, tx)).length ≤ 501 * (k + 1) := by rw [List.length_append]; omega
          have hst := Lib.hid (startE (nm := nm) (tx := tx) (t := 27) hbr.out)
          clear he h501
          have hj : (k : Int) < (L.length : Int) := by omega
          go_wp2
          go_region_held3 (fun w' => w'.cell? ⟨wr.heap.size, 0, none⟩ = some (.string nm) ∧ w'.cell? ⟨wr.heap.size, 1, none⟩ = some (.string tx) ∧ Hid (wr.heap.size < w'.heap.size ∧ Below w.heap.size w w'))
            (first | exact hst.out | exact keepE (by assumption) (by assumption) (by assumption) hb3.out | (go_split_ands; exact keepE (by assumption) (by assumption) (by assumption) hb3.out) | go_keep)
            (first | (go_at_call 36; refine (opening_any _ _ f0).mono ?_; rintro e w' ⟨rfl, rfl⟩) | (go_at_call 38; refine (closing_any _ _ f0).mono ?_; rintro e w' ⟨rfl, rfl⟩) | (go_at_call 37; refine (escI_any _ _ m1).mono ?_; rintro e w3 ⟨rfl, hb3⟩; have hb3 := Lib.hid hb3))
          go_split_ands
          rename Hid (wr.heap.size < _ ∧ _) => hS
          go_wp2
          go_roundw
          case rel => exact ⟨k + 1, l ++ elT1 (nm, tx), by omega, by go_num, by rw [← hcat.out]; rfl, hlen, Lib.hid (by rw [hN.out, ← hp.out]), Lib.hid hS.out.2⟩
          case measure => simp [intOf]; omega
        · have hr' : Hid (elT L = l) := Lib.hid (by rw [HX.out, hp.out, List.take_of_length_le (by omega)])
          go_wp2
          go_ret
          exact ⟨by rw [hr'.out]; rfl, hbr.out⟩
end Go.Proofs.Ytoiglenodiomhaa
