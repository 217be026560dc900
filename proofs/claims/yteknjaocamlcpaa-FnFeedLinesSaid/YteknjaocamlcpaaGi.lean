/-
  The verifier's own text: ElemS ElemTS ElemVI ElemFI PlaceI ElemTI OwnE.
-/
import Derived.Test.YteknjaocamlcpaaRows
import Derived.Test.YteknjaocamlcpaaGa
import Derived.Test.YteknjaocamlcpaaGb
import Derived.Test.YteknjaocamlcpaaGc
import Derived.Test.YteknjaocamlcpaaGd
import Derived.Deep.RegionHeld3
import Derived.WalkKit
import Derived.ProofKit
import Derived.Below
import Derived.Lib.Hide
import Derived.Outline
import Derived.BigQuiet
import Derived.Deep.QuietTactic
import Derived.Deep.Draws
import Derived.Laws.OwnMore
import Derived.Laws.Rows
import Derived.WalkSpells
import Derived.Deep.RegionWith
namespace Go.Proofs.Yteknjaocamlcpaa
open Go.RowKit
set_option linter.unusedVariables false
/-- the cells of an element -/
def encE (e : ByteArray × ByteArray) : List Value := [.string e.1, .string e.2]
theorem encE_len (e : ByteArray × ByteArray) : (encE e).length = 2 := rfl
/-- strings that are no longer than a slice may be -/
def FitE (L : EL) : Prop := ∀ e ∈ L, e.1.size ≤ 100000000 ∧ e.2.size ≤ 100000000
theorem rdE_cells {w : World} {b o : Nat} {L : EL} (h : ∀ j u, (L.flatMap encE)[j]? = some u → w.cell? ⟨b, o + j, none⟩ = some u) {k : Nat} (hk : k < L.length) :
    w.cell? ⟨b, o + k * 2, none⟩ = some (.string L[k].1) ∧ w.cell? ⟨b, o + k * 2 + 1, none⟩ = some (.string L[k].2) := by
  constructor
  · have := flat_get encE_len L k hk 0 (by omega)
    exact h (k * 2) (.string L[k].1) this
  · have := flat_get encE_len L k hk 1 (by omega)
    have h2 := h (k * 2 + 1) (.string L[k].2) this
    rw [← Nat.add_assoc] at h2; exact h2
set_option maxRecDepth 100000 in
set_option maxHeartbeats 400000 in
theorem elS_valid (v : Value) (L : EL) (w : World) (h : RdG encE w v L) (hf : FitE L) :
    Calls Try.prog 90 #[v] w fun e w' => e = .returned (.bool (elB L)) ∧ w = w' := by
  by_cases hL : L = []
  · subst hL
    obtain ⟨A, c, rfl, hc⟩ := h.nil
    go_enter Try.func90, Try.ntmps90
    go_wp2
    refine wp_loop_rounds 1 ?_
    rw [rounds_succ]; go_wp2
    go_ret
    exact ⟨rfl, rfl⟩
  · obtain ⟨b, o, c, rfl, h1, h2, hb, h4⟩ := h.some hL
    unfold maxLen at h2
    have hcells := Lib.hid (fun k (hk : k < L.length) => rdE_cells h4 hk)
    clear h4 hL
    go_enter Try.func90, Try.ntmps90
    go_wp2
    go_loop [3] (fun i => ∃ k : Nat, k ≤ L.length ∧ i = .int .i64 k ∧ Hid ((L.take k).all okE = true)) (fun i => L.length - (intOf i).toNat)
    case atStart => exact ⟨0, Nat.zero_le _, rfl, Lib.hid rfl⟩
    case round =>
      obtain ⟨k, hk, rfl, hp⟩ := hrel
      by_cases hlt : k < L.length
      · obtain ⟨c0, c1⟩ := hcells.out k hlt
        obtain ⟨f0, f1⟩ := hf _ (List.getElem_mem hlt)
        have hbad := fun q => elB_bad (L := L) hlt q
        have hok := fun q => take_all (p := okE) hlt hp.out q
        obtain ⟨e, he⟩ : ∃ e, L[k] = e := ⟨_, rfl⟩
        rw [he] at c0 c1 f0 f1 hbad hok
        obtain ⟨nm, tx⟩ := e
        simp only at c0 c1 f0 f1
        have m0 : nm.size ≤ maxLen := by unfold maxLen; omega
        have m1 : tx.size ≤ maxLen := by unfold maxLen; omega
        rcases hw : wordB nm.data.toList with _ | _
        · have HR := Lib.hid (hbad (okE_word hw))
          have HW := Lib.hid hw
          clear hw hbad hok he
          go_wp2_with (go_at_call 61; refine (sword_any _ _ m0).mono ?_; rintro e w' ⟨rfl, rfl⟩; rw [HW.out])
          go_ret
          exact ⟨ret_bool HR.out.symm, rfl⟩
        · have HW := Lib.hid hw
          rcases ht : textB tx.data.toList with _ | _
          · have HR := Lib.hid (hbad (okE_text ht))
            have HT := Lib.hid ht
            clear hw ht hbad hok he
            go_wp2_with (first | (go_at_call 61; refine (sword_any _ _ m0).mono ?_; rintro e w' ⟨rfl, rfl⟩; rw [HW.out]) | (go_at_call 62; refine (stext_any _ _ m1).mono ?_; rintro e w' ⟨rfl, rfl⟩; rw [HT.out]))
            go_ret
            exact ⟨ret_bool HR.out.symm, rfl⟩
          · have HN := Lib.hid (hok (okE_both hw ht))
            have HT := Lib.hid ht
            clear hw ht hbad hok he
            go_wp2_with (first | (go_at_call 61; refine (sword_any _ _ m0).mono ?_; rintro e w' ⟨rfl, rfl⟩; rw [HW.out]) | (go_at_call 62; refine (stext_any _ _ m1).mono ?_; rintro e w' ⟨rfl, rfl⟩; rw [HT.out]))
            go_round
            case rel => exact ⟨k + 1, by omega, by go_num, HN⟩
            case measure => simp [intOf]; omega
      · have hr := Lib.hid (elB_end (by omega) hp.out)
        go_wp2
        go_ret
        exact ⟨ret_bool hr.out, rfl⟩
set_option maxRecDepth 100000 in
set_option maxHeartbeats 400000 in
theorem elS_find (v : Value) (L : EL) (n : ByteArray) (w : World) (h : RdG encE w v L) (hf : FitE L) :
    Calls Try.prog 76 #[v, .string n] w fun e w' => e = .returned (.tuple #[.string (elX L n).1, .bool (elX L n).2]) ∧ w = w' := by
  have hv := elS_valid v L
  by_cases hL : L = []
  · subst hL
    obtain ⟨A, c, rfl, hc⟩ := h.nil
    clear hv
    go_enter Try.func76, Try.ntmps76
    go_wp2
    refine wp_loop_rounds 1 ?_
    rw [rounds_succ]; go_wp2
    go_ret2
    exact ⟨rfl, rfl⟩
  · have hpos : 0 < L.length := List.length_pos_iff.2 hL
    obtain ⟨b, o, c, rfl, h1, h2, hb, h4⟩ := h.some hL
    unfold maxLen at h2
    have hcells := Lib.hid (fun k (hk : k < L.length) => rdE_cells h4 hk)
    clear h4 hL
    rcases hB : elB L with _ | _
    · have HB := Lib.hid hB
      have HR := Lib.hid (elX_out n hB)
      clear hB
      go_enter Try.func76, Try.ntmps76
      go_wp2
      refine wp_loop_rounds 1 ?_
      rw [rounds_succ]
      go_wp2_with (go_at_call 90; refine (hv _ h hf).mono ?_; rintro e w' ⟨rfl, rfl⟩; rw [HB.out])
      go_ret2
      exact ⟨by rw [HR.out]; rfl, rfl⟩
    · have HB := Lib.hid hB
      have HX := Lib.hid (elX_in n hB)
      clear hB
      go_enter Try.func76, Try.ntmps76
      go_wp2
      go_loop [6] (fun i => ∃ k : Nat, k ≤ L.length ∧ i = .int .i64 k ∧ Hid (∀ i (hi : i < L.length), i < k → L[i].1 ≠ n)) (fun i => L.length - (intOf i).toNat)
      case atStart => exact ⟨0, Nat.zero_le _, rfl, Lib.hid (by intro i hi h; omega)⟩
      case round =>
        obtain ⟨k, hk, rfl, hp⟩ := hrel
        by_cases hlt : k < L.length
        · obtain ⟨c0, c1⟩ := hcells.out k hlt
          have hat := fun q => elX1_at (n := n) hlt hp.out q
          have hno : L[k].1 ≠ n → ∀ i (hi : i < L.length), i < k + 1 → L[i].1 ≠ n := fun q i hi hik => by
            by_cases e : i = k
            · subst e; exact q
            · exact hp.out i hi (by omega)
          obtain ⟨e, he⟩ : ∃ e, L[k] = e := ⟨_, rfl⟩
          rw [he] at c0 c1 hat hno
          obtain ⟨nm, tx⟩ := e
          simp only at c0 c1 hat hno
          by_cases hn : nm = n
          · have HR := Lib.hid (hat hn)
            have q := str_same hn
            clear hat hno he hn
            go_wp2_with (go_at_call 90; refine (hv _ h hf).mono ?_; rintro e w' ⟨rfl, rfl⟩; rw [HB.out])
            go_ret2
            exact ⟨by rw [HX.out, HR.out]; rfl, rfl⟩
          · have HN := Lib.hid (hno hn)
            have q := str_other hn
            clear hat hno he hn
            go_wp2_with (go_at_call 90; refine (hv _ h hf).mono ?_; rintro e w' ⟨rfl, rfl⟩; rw [HB.out])
            go_round
            case rel => exact ⟨k + 1, by omega, by go_num, HN⟩
            case measure => simp [intOf]; omega
        · have HR := Lib.hid (elX1_none (L := L) (n := n) (fun i hi => hp.out i hi (by omega)))
          go_wp2
          go_ret2
          exact ⟨by rw [HX.out, HR.out]; rfl, rfl⟩
def elP (l : List UInt8) (e : ByteArray × ByteArray) : ByteArray := bs l ++ ⟨#[60]⟩ ++ e.1 ++ ⟨#[62]⟩ ++ bs (escT e.2.data.toList) ++ ⟨#[60, 47]⟩ ++ e.1 ++ ⟨#[62]⟩
theorem el_cat (l : List UInt8) (e : ByteArray × ByteArray) : elP l e = bs (l ++ elT1 e) := by
  apply ByteArray.ext; apply Array.toList_inj.1
  simp [elP, bs, elT1]
/-- no sum of the lengths is too great -/
theorem el_sums (l : List UInt8) (n t : ByteArray) (hl : l.length ≤ 100000) (hn : n.size ≤ 100000000) :
    (bs l).size + (⟨#[60]⟩ : ByteArray).size ≤ 9223372036854775807 ∧ (bs l ++ ⟨#[60]⟩).size + n.size ≤ 9223372036854775807 ∧ (bs l ++ ⟨#[60]⟩ ++ n).size + (⟨#[62]⟩ : ByteArray).size ≤ 9223372036854775807 ∧
    (bs l ++ ⟨#[60]⟩ ++ n ++ ⟨#[62]⟩).size + (bs (escT t.data.toList)).size ≤ 9223372036854775807 ∧ (bs l ++ ⟨#[60]⟩ ++ n ++ ⟨#[62]⟩ ++ bs (escT t.data.toList)).size + (⟨#[60, 47]⟩ : ByteArray).size ≤ 9223372036854775807 ∧
    (bs l ++ ⟨#[60]⟩ ++ n ++ ⟨#[62]⟩ ++ bs (escT t.data.toList) ++ ⟨#[60, 47]⟩).size + n.size ≤ 9223372036854775807 ∧ (bs l ++ ⟨#[60]⟩ ++ n ++ ⟨#[62]⟩ ++ bs (escT t.data.toList) ++ ⟨#[60, 47]⟩ ++ n).size + (⟨#[62]⟩ : ByteArray).size ≤ 9223372036854775807 := by
  have h1 : (bs l).size = l.length := rfl
  have h2 : (⟨#[60]⟩ : ByteArray).size = 1 := rfl
  have h3 : (⟨#[62]⟩ : ByteArray).size = 1 := rfl
  have h4 : (⟨#[60, 47]⟩ : ByteArray).size = 2 := rfl
  have h5 : (bs (escT t.data.toList)).size ≤ 480 := by rw [bs_size]; exact escT_len _
  simp only [ByteArray.size_append]
  omega
set_option maxRecDepth 100000 in
set_option maxHeartbeats 1000000 in
theorem elS_text (v : Value) (L : EL) (w : World) (h : RdG encE w v L) (hf : FitE L) :
    Calls Try.prog 67 #[v] w (Quiet (.string (bs (elT L))) w) := by
  by_cases hL : L = []
  · subst hL
    obtain ⟨A, c, rfl, hc⟩ := h.nil
    go_enter Try.func67, Try.ntmps67
    go_wp2
    refine wp_loop_rounds 1 ?_
    rw [rounds_succ]; go_wp2
    go_ret
    exact ⟨rfl, 0, rfl⟩
  · have hpos : 0 < L.length := List.length_pos_iff.2 hL
    have hv := elS_valid v L
    have hrd : ∀ m, RdG encE (w.drewN m) v L := fun m => h.below (below_drewN w m)
    obtain ⟨b, o, c, rfl, h1, h2, hb, h4⟩ := h.some hL
    unfold maxLen at h2
    have hcells := Lib.hid (fun k (hk : k < L.length) => rdE_cells h4 hk)
    clear h4 hL
    rcases hB : elB L with _ | _
    · have HB := Lib.hid hB
      have HR := Lib.hid (elT_out hB)
      clear hB
      go_enter Try.func67, Try.ntmps67
      go_wp2
      refine wp_loop_rounds 1 ?_
      rw [rounds_succ]
      go_wp2_with (go_at_call 90; refine (hv _ h hf).mono ?_; rintro e w' ⟨rfl, rfl⟩; rw [HB.out])
      go_ret
      exact ⟨by rw [HR.out]; rfl, 0, rfl⟩
    · have HB := Lib.hid hB
      have HX := Lib.hid (elT_in hB)
      have h8 := elB_len hB
      have hmem := Lib.hid (elB_mem hB)
      clear hB
      go_enter Try.func67, Try.ntmps67
      go_wp2
      go_loopw [3, 4] (fun t i wr => ∃ (k : Nat) (l : List UInt8), k ≤ L.length ∧ i = .int .i64 k ∧ t = .string (bs l) ∧ l.length ≤ 501 * k ∧ Hid (l = elL (L.take k)) ∧ Hid (∃ m, wr = w.drewN m)) (fun _ i _ => L.length - (intOf i).toNat)
      case atStart => exact ⟨0, [], Nat.zero_le _, rfl, rfl, by simp, Lib.hid rfl, Lib.hid ⟨0, rfl⟩⟩
      case round =>
        obtain ⟨k, l, hk, rfl, rfl, hl, hp, hw⟩ := hrel
        have hrr : RdG encE wr (.slice (some ⟨b, o, none⟩) L.length c) L := by obtain ⟨m, hm⟩ := hw.out; rw [hm]; exact hrd m
        by_cases hlt : k < L.length
        · have hcw : wr.cell? ⟨b, o + k * 2, none⟩ = some (.string L[k].1) ∧ wr.cell? ⟨b, o + k * 2 + 1, none⟩ = some (.string L[k].2) := by
            obtain ⟨m, hm⟩ := hw.out; rw [hm]; exact hcells.out k hlt
          obtain ⟨c0, c1⟩ := hcw
          obtain ⟨f0, f1⟩ := hf _ (List.getElem_mem hlt)
          have hN := Lib.hid (elL_take hlt)
          have h501 := elT1_len (hmem.out _ (List.getElem_mem hlt))
          obtain ⟨e, he⟩ : ∃ e, L[k] = e := ⟨_, rfl⟩
          rw [he] at c0 c1 f0 f1 hN h501
          have hcat := Lib.hid (el_cat l e)
          obtain ⟨nm, tx⟩ := e
          simp only at c0 c1 f0 f1
          have m1 : tx.size ≤ maxLen := by unfold maxLen; omega
          obtain ⟨s1, s2, s3, s4, s5, s6, s7⟩ := el_sums l nm tx (by omega) f0
          have hlen : (l ++ elT1 (nm, tx)).length ≤ 501 * (k + 1) := by rw [List.length_append]; omega
          clear he h501
          have hj : (k : Int) < (L.length : Int) := by omega
          go_wp2_with (go_at_call 90; refine (hv _ hrr hf).mono ?_; rintro e w' ⟨rfl, rfl⟩; rw [HB.out])
          go_quiet ((go_at_call 91; exact quiet_eq (escS_any _ _ m1)))
          go_wp2
          go_roundw
          case rel => exact ⟨k + 1, l ++ elT1 (nm, tx), by omega, by go_num, by rw [← hcat.out]; rfl, hlen, Lib.hid (by rw [hN.out, ← hp.out]), Lib.hid (by obtain ⟨m, hm⟩ := hw.out; exact ⟨_, by rw [hm, drewN_add]⟩)⟩
          case measure => simp [intOf]; omega
        · have hr' : Hid (elT L = l) := Lib.hid (by rw [HX.out, hp.out, List.take_of_length_le (by omega)])
          go_wp2
          go_ret
          exact ⟨by rw [hr'.out]; rfl, hw.out⟩
theorem elI_big (v : Value) (L : EL) (w : World) (h : RdG encE w v L) (h8 : 8 < L.length) :
    Calls Try.prog 86 #[v] w fun e w' => e = .returned (.bool (elB L)) ∧ w = w' := by
  have hL : L ≠ [] := by intro e; rw [e] at h8; simp at h8
  obtain ⟨b, o, c, rfl, h1, h2, hb, h4⟩ := h.some hL
  unfold maxLen at h2
  clear h4 hL
  have HR : Hid (elB L = false) := Lib.hid (by
    rcases q : elB L with _ | _
    · rfl
    · have := elB_len q; omega)
  go_enter Try.func86, Try.ntmps86
  go_wp2
  go_ret
  exact ⟨ret_bool HR.out.symm, rfl⟩
/-- a bool, and memory that grew -/
def GotB (b : Bool) (w : World) (e : Ending) (w' : World) : Prop := e = .returned (.bool b) ∧ Below w.heap.size w w'
set_option maxRecDepth 100000 in
set_option maxHeartbeats 1000000 in
theorem elI_valid (v : Value) (L : EL) (w : World) (h : RdG encE w v L) (hf : FitE L) :
    Calls Try.prog 86 #[v] w (GotB (elB L) w) := by
  by_cases h8 : 8 < L.length
  · refine (elI_big v L w h h8).mono ?_
    rintro e w' ⟨rfl, rfl⟩
    exact ⟨rfl, Below.refl _ _⟩
  by_cases hL : L = []
  · subst hL
    obtain ⟨A, c, rfl, hc⟩ := h.nil
    go_enter Try.func86, Try.ntmps86
    go_wp2
    refine wp_loop_rounds 1 ?_
    rw [rounds_succ]; go_wp2
    go_ret
    exact ⟨rfl, Below.refl _ _⟩
  · obtain ⟨b, o, c, rfl, h1, h2, hb, h4⟩ := h.some hL
    unfold maxLen at h2
    have hcells := Lib.hid (fun k (hk : k < L.length) => rdE_cells h4 hk)
    clear h4 hL
    go_enter Try.func86, Try.ntmps86
    go_wp2
    go_loopw [10] (fun i wr => ∃ k : Nat, k ≤ L.length ∧ i = .int .i64 k ∧ Hid ((L.take k).all okE = true) ∧ Hid (Below w.heap.size w wr)) (fun i _ => L.length - (intOf i).toNat)
    case atStart => exact ⟨0, Nat.zero_le _, rfl, Lib.hid rfl, Lib.hid (Below.refl _ _)⟩
    case round =>
      obtain ⟨k, hk, rfl, hp, hbr⟩ := hrel
      by_cases hlt : k < L.length
      · obtain ⟨c0, c1⟩ := hcells.out k hlt
        rw [← hbr.out.cell (p := ⟨b, o + k * 2, none⟩) hb] at c0
        rw [← hbr.out.cell (p := ⟨b, o + k * 2 + 1, none⟩) hb] at c1
        obtain ⟨f0, f1⟩ := hf _ (List.getElem_mem hlt)
        have hbad := fun q => elB_bad (L := L) hlt q
        have hok := fun q => take_all (p := okE) hlt hp.out q
        obtain ⟨e, he⟩ : ∃ e, L[k] = e := ⟨_, rfl⟩
        rw [he] at c0 c1 f0 f1 hbad hok
        obtain ⟨nm, tx⟩ := e
        simp only at c0 c1 f0 f1
        have m0 : nm.size ≤ maxLen := by unfold maxLen; omega
        have m1 : tx.size ≤ maxLen := by unfold maxLen; omega
        have hsz := hbr.out.size
        have hbn : Hid (Below w.heap.size w (wr.alloc (.cells #[.string nm, .string tx] 72))) := Lib.hid (hbr.out.alloc hsz _)
        have hjj : (k : Int) < (L.length : Int) := by omega
        rcases hw : wordB nm.data.toList with _ | _
        · have HR := Lib.hid (hbad (okE_word hw))
          have HW := Lib.hid hw
          clear hw hbad hok he
          go_wp2_with (go_at_call 45; refine (word_any _ _ m0).mono ?_; rintro e w' ⟨rfl, rfl⟩; rw [HW.out])
          go_ret
          exact ⟨ret_bool HR.out.symm, hbn.out⟩
        · have HW := Lib.hid hw
          rcases ht : textB tx.data.toList with _ | _
          · have HR := Lib.hid (hbad (okE_text ht))
            have HT := Lib.hid ht
            clear hw ht hbad hok he
            go_wp2_with (first | (go_at_call 45; refine (word_any _ _ m0).mono ?_; rintro e w' ⟨rfl, rfl⟩; rw [HW.out]) | (go_at_call 59; refine (text_any _ _ m1).mono ?_; rintro e w' ⟨rfl, rfl⟩; rw [HT.out]))
            go_ret
            exact ⟨ret_bool HR.out.symm, hbn.out⟩
          · have HN := Lib.hid (hok (okE_both hw ht))
            have HT := Lib.hid ht
            clear hw ht hbad hok he
            go_wp2_with (first | (go_at_call 45; refine (word_any _ _ m0).mono ?_; rintro e w' ⟨rfl, rfl⟩; rw [HW.out]) | (go_at_call 59; refine (text_any _ _ m1).mono ?_; rintro e w' ⟨rfl, rfl⟩; rw [HT.out]))
            go_roundw
            case rel => exact ⟨k + 1, by omega, by go_num, HN, hbn⟩
            case measure => simp [intOf]; omega
      · have hr := Lib.hid (elB_end (by omega) hp.out)
        have h8' : decide ((L.length : Int) ≤ 8) = true := decide_eq_true (by omega)
        go_wp2
        go_ret
        exact ⟨ret_bool (by rw [← hr.out, h8']), hbr.out⟩
set_option maxRecDepth 100000 in
set_option maxHeartbeats 1000000 in
theorem elI_find (v : Value) (L : EL) (n : ByteArray) (w : World) (h : RdG encE w v L) (hf : FitE L) :
    Calls Try.prog 94 #[v, .string n] w fun e w' => e = .returned (.tuple #[.string (elX L n).1, .bool (elX L n).2]) ∧ Below w.heap.size w w' := by
  have hv := Lib.hid (elI_valid v L w h hf)
  rcases hB : elB L with _ | _
  · have HB := Lib.hid hB
    have HR := Lib.hid (elX_out n hB)
    clear hB
    go_enter Try.func94, Try.ntmps94
    go_wp2_with (go_at_call 86; refine hv.out.mono ?_; rintro e w1 ⟨rfl, hb1⟩; rw [HB.out])
    go_ret2
    exact ⟨by rw [HR.out]; rfl, hb1⟩
  · have HB := Lib.hid hB
    have HX := Lib.hid (elX_in n hB)
    have h8 := elB_len hB
    clear hB
    by_cases hL : L = []
    · subst hL
      obtain ⟨A, c, rfl, hc⟩ := h.nil
      go_enter Try.func94, Try.ntmps94
      go_wp2_with (go_at_call 86; refine hv.out.mono ?_; rintro e w1 ⟨rfl, hb1⟩; rw [HB.out])
      refine wp_loop_rounds 1 ?_
      rw [rounds_succ]; go_wp2
      go_ret2
      exact ⟨rfl, hb1⟩
    · obtain ⟨b, o, c, rfl, h1, h2, hb, h4⟩ := h.some hL
      unfold maxLen at h2
      have hcells := Lib.hid (fun k (hk : k < L.length) => rdE_cells h4 hk)
      clear h4 hL
      go_enter Try.func94, Try.ntmps94
      go_wp2_with (go_at_call 86; refine hv.out.mono ?_; rintro e w1 ⟨rfl, hb1⟩; rw [HB.out]; have hb1 := Lib.hid hb1)
      go_loopw [13] (fun i wr => ∃ k : Nat, k ≤ L.length ∧ i = .int .i64 k ∧ Hid (∀ i (hi : i < L.length), i < k → L[i].1 ≠ n) ∧ Hid (Below w.heap.size w wr)) (fun i _ => L.length - (intOf i).toNat)
      case atStart => exact ⟨0, Nat.zero_le _, rfl, Lib.hid (by intro i hi h; omega), hb1⟩
      case round =>
        obtain ⟨k, hk, rfl, hp, hbr⟩ := hrel
        by_cases hlt : k < L.length
        · obtain ⟨c0, c1⟩ := hcells.out k hlt
          rw [← hbr.out.cell (p := ⟨b, o + k * 2, none⟩) hb] at c0
          rw [← hbr.out.cell (p := ⟨b, o + k * 2 + 1, none⟩) hb] at c1
          have hat := fun q => elX1_at (n := n) hlt hp.out q
          have hno : L[k].1 ≠ n → ∀ i (hi : i < L.length), i < k + 1 → L[i].1 ≠ n := fun q i hi hik => by
            by_cases e : i = k
            · subst e; exact q
            · exact hp.out i hi (by omega)
          obtain ⟨e, he⟩ : ∃ e, L[k] = e := ⟨_, rfl⟩
          rw [he] at c0 c1 hat hno
          obtain ⟨nm, tx⟩ := e
          simp only at c0 c1 hat hno
          have hsz := hbr.out.size
          have hbn : Hid (Below w.heap.size w (wr.alloc (.cells #[.string nm, .string tx] 72))) := Lib.hid (hbr.out.alloc hsz _)
          have hjj : (k : Int) < (L.length : Int) := by omega
          by_cases hn : nm = n
          · have HR := Lib.hid (hat hn)
            have q := str_same hn
            clear hat hno he hn
            go_wp2
            go_ret2
            exact ⟨by rw [HX.out, HR.out]; rfl, hbn.out⟩
          · have HN := Lib.hid (hno hn)
            have q := str_other hn
            clear hat hno he hn
            go_wp2
            go_roundw
            case rel => exact ⟨k + 1, by omega, by go_num, HN, hbn⟩
            case measure => simp [intOf]; omega
        · have HR := Lib.hid (elX1_none (L := L) (n := n) (fun i hi => hp.out i hi (by omega)))
          go_wp2
          go_ret2
          exact ⟨by rw [HX.out, HR.out]; rfl, hbr.out⟩
def PlaceOf (s : ByteArray) (p : Nat) (c : UInt8) (n : Nat) : Prop := p ≤ n ∧ n ≤ s.size ∧ (∀ i (hi : i < s.size), p ≤ i → i < n → s[i] ≠ c) ∧ (n = s.size ∨ ∃ h : n < s.size, s[n] = c)
def GotPlace (s : ByteArray) (p : Nat) (c : UInt8) (w : World) (e : Ending) (w' : World) : Prop := ∃ n : Nat, PlaceOf s p c n ∧ e = .returned (.int .i64 n) ∧ w = w'
theorem place_next {s : ByteArray} {p k : Nat} {c : UInt8} (h : s[k]! ≠ c) (F : ∀ i (hi : i < s.size), p ≤ i → i < k → s[i] ≠ c) : ∀ i (hi : i < s.size), p ≤ i → i < k + 1 → s[i] ≠ c := fun i hi a b => by
  by_cases q : i = k
  · subst q; rwa [getElem!_pos s i hi] at h
  · exact F i hi a (by omega)
theorem place_any (s : ByteArray) (p : Nat) (c : UInt8) (w : World) (hs : s.size ≤ maxLen) (hp : p ≤ s.size) :
    Calls Try.prog 102 #[.string s, .int .i64 p, .int .u8 c.toNat] w (GotPlace s p c w) := by
  unfold maxLen at hs
  go_enter Try.func102, Try.ntmps102
  go_wp2
  go_loop [7] (fun i => ∃ k : Nat, p ≤ k ∧ k ≤ s.size ∧ i = .int .i64 k ∧ Hid (∀ i (hi : i < s.size), p ≤ i → i < k → s[i] ≠ c)) (fun i => s.size - (intOf i).toNat)
  case atStart => exact ⟨p, Nat.le_refl _, hp, rfl, Lib.hid (by intro i hi a b; omega)⟩
  case round =>
    obtain ⟨k, h1, h2, rfl, hp3⟩ := hrel
    by_cases hlt : k < s.size
    · by_cases hc : s[k] = c
      · have b1 : ((s[k].toNat : Int) == (c.toNat : Int)) = true := by rw [hc]; simp
        have HR : Hid (PlaceOf s p c k) := Lib.hid ⟨h1, h2, hp3.out, .inr ⟨hlt, hc⟩⟩
        clear hc
        go_wp2
        go_ret
        exact ⟨k, HR.out, rfl, rfl⟩
      · have b1 : ((s[k].toNat : Int) == (c.toNat : Int)) = false := by rw [beq_eq_false_iff_ne]; intro e; exact hc (UInt8.toNat_inj.1 (by omega))
        have HN := Lib.hid (place_next (p := p) (k := k) (c := c) (by rw [getElem!_pos s k hlt]; exact hc) hp3.out)
        clear hc
        go_wp2
        go_round
        case rel => exact ⟨k + 1, by omega, by omega, by go_num, HN⟩
        case measure => simp [intOf]; omega
    · have HR : Hid (PlaceOf s p c s.size) := Lib.hid ⟨hp, Nat.le_refl _, fun i hi a b => hp3.out i hi a (by omega), .inl rfl⟩
      go_wp2
      go_ret
      exact ⟨s.size, HR.out, rfl, rfl⟩
theorem opening_any (n : ByteArray) (w : World) (hn : n.size ≤ 100000000) :
    Calls Try.prog 87 #[.string n] w fun e w' => e = .returned (.string (⟨#[60]⟩ ++ n ++ ⟨#[62]⟩)) ∧ w = w' := by
  have z1 : (⟨#[60]⟩ : ByteArray).size = 1 := rfl
  have z2 : (⟨#[62]⟩ : ByteArray).size = 1 := rfl
  have s1 : (⟨#[60]⟩ : ByteArray).size + n.size ≤ 9223372036854775807 := by omega
  have s2 : (⟨#[60]⟩ ++ n : ByteArray).size + (⟨#[62]⟩ : ByteArray).size ≤ 9223372036854775807 := by rw [ByteArray.size_append]; omega
  clear z1 z2
  go_enter Try.func87, Try.ntmps87
  go_wp2
  go_ret
  exact ⟨rfl, rfl⟩
theorem closing_any (n : ByteArray) (w : World) (hn : n.size ≤ 100000000) :
    Calls Try.prog 89 #[.string n] w fun e w' => e = .returned (.string (⟨#[60, 47]⟩ ++ n ++ ⟨#[62]⟩)) ∧ w = w' := by
  have z1 : (⟨#[60, 47]⟩ : ByteArray).size = 2 := rfl
  have z2 : (⟨#[62]⟩ : ByteArray).size = 1 := rfl
  have s1 : (⟨#[60, 47]⟩ : ByteArray).size + n.size ≤ 9223372036854775807 := by omega
  have s2 : (⟨#[60, 47]⟩ ++ n : ByteArray).size + (⟨#[62]⟩ : ByteArray).size ≤ 9223372036854775807 := by rw [ByteArray.size_append]; omega
  clear z1 z2
  go_enter Try.func89, Try.ntmps89
  go_wp2
  go_ret
  exact ⟨rfl, rfl⟩
def elQ (l : List UInt8) (e : ByteArray × ByteArray) : ByteArray := bs l ++ (⟨#[60]⟩ ++ e.1 ++ ⟨#[62]⟩) ++ bs (escT e.2.data.toList) ++ (⟨#[60, 47]⟩ ++ e.1 ++ ⟨#[62]⟩)
theorem elQ_cat (l : List UInt8) (e : ByteArray × ByteArray) : elQ l e = bs (l ++ elT1 e) := by
  apply ByteArray.ext; apply Array.toList_inj.1
  simp [elQ, bs, elT1]
theorem elQ_sums (l : List UInt8) (n t : ByteArray) (hl : l.length ≤ 100000) (hn : n.size ≤ 100000000) :
    (bs l).size + (⟨#[60]⟩ ++ n ++ ⟨#[62]⟩ : ByteArray).size ≤ 9223372036854775807 ∧ (bs l ++ (⟨#[60]⟩ ++ n ++ ⟨#[62]⟩)).size + (bs (escT t.data.toList)).size ≤ 9223372036854775807 ∧
    (bs l ++ (⟨#[60]⟩ ++ n ++ ⟨#[62]⟩) ++ bs (escT t.data.toList)).size + (⟨#[60, 47]⟩ ++ n ++ ⟨#[62]⟩ : ByteArray).size ≤ 9223372036854775807 := by
  have h1 : (bs l).size = l.length := rfl
  have h2 : (⟨#[60]⟩ : ByteArray).size = 1 := rfl
  have h3 : (⟨#[62]⟩ : ByteArray).size = 1 := rfl
  have h4 : (⟨#[60, 47]⟩ : ByteArray).size = 2 := rfl
  have h5 : (bs (escT t.data.toList)).size ≤ 480 := by rw [bs_size]; exact escT_len _
  simp only [ByteArray.size_append]
  omega
theorem keepE {W w2 w3 : World} {g : Nat} {nm tx : ByteArray} (h0 : w2.cell? ⟨g, 0, none⟩ = some (.string nm)) (h1 : w2.cell? ⟨g, 1, none⟩ = some (.string tx)) (h : Hid (g < w2.heap.size ∧ Below W.heap.size W w2)) (hb : Below w2.heap.size w2 w3) :
    w3.cell? ⟨g, 0, none⟩ = some (.string nm) ∧ w3.cell? ⟨g, 1, none⟩ = some (.string tx) ∧ Hid (g < w3.heap.size ∧ Below W.heap.size W w3) :=
  ⟨by rw [hb.cell (p := ⟨g, 0, none⟩) h.out.1]; exact h0, by rw [hb.cell (p := ⟨g, 1, none⟩) h.out.1]; exact h1, Lib.hid ⟨Nat.lt_of_lt_of_le h.out.1 hb.size, below_trans' h.out.2 hb⟩⟩
theorem startE {W w : World} {nm tx : ByteArray} {t : TypeId} (hb : Below W.heap.size W w) :
    (w.alloc (.cells #[.string nm, .string tx] t)).drew.cell? ⟨w.heap.size, 0, none⟩ = some (.string nm) ∧ (w.alloc (.cells #[.string nm, .string tx] t)).drew.cell? ⟨w.heap.size, 1, none⟩ = some (.string tx) ∧
    Hid (w.heap.size < (w.alloc (.cells #[.string nm, .string tx] t)).drew.heap.size ∧ Below W.heap.size W (w.alloc (.cells #[.string nm, .string tx] t)).drew) :=
  ⟨World.cell?_alloc_new w _ _ 0, World.cell?_alloc_new w _ _ 1, Lib.hid ⟨by show _ < (w.alloc _).heap.size; simp, Below.drew (hb.alloc hb.size _)⟩⟩
set_option maxRecDepth 100000 in
set_option maxHeartbeats 2000000 in
theorem elI_text (v : Value) (L : EL) (w : World) (h : RdG encE w v L) (hf : FitE L) :
    Calls Try.prog 66 #[v] w (GotStr (elT L) w) := by
  have hv := Lib.hid (elI_valid v L w h hf)
  rcases hB : elB L with _ | _
  · have HB := Lib.hid hB
    have HR := Lib.hid (elT_out hB)
    clear hB
    go_enter Try.func66, Try.ntmps66
    go_wp2_with (go_at_call 86; refine hv.out.mono ?_; rintro e w1 ⟨rfl, hb1⟩; rw [HB.out])
    go_ret
    exact ⟨by rw [HR.out]; rfl, hb1⟩
  · have HB := Lib.hid hB
    have HX := Lib.hid (elT_in hB)
    have h8 := elB_len hB
    have hmem := Lib.hid (elB_mem hB)
    clear hB
    by_cases hL : L = []
    · subst hL
      obtain ⟨A, c, rfl, hc⟩ := h.nil
      go_enter Try.func66, Try.ntmps66
      go_wp2_with (go_at_call 86; refine hv.out.mono ?_; rintro e w1 ⟨rfl, hb1⟩; rw [HB.out])
      refine wp_loop_rounds 1 ?_
      rw [rounds_succ]; go_wp2
      go_ret
      exact ⟨rfl, hb1⟩
    · obtain ⟨b, o, c, rfl, h1, h2, hb, h4⟩ := h.some hL
      unfold maxLen at h2
      have hcells := Lib.hid (fun k (hk : k < L.length) => rdE_cells h4 hk)
      clear h4 hL
      go_enter Try.func66, Try.ntmps66
      go_wp2_with (go_at_call 86; refine hv.out.mono ?_; rintro e w1 ⟨rfl, hb1⟩; rw [HB.out]; have hb1 := Lib.hid hb1)
      go_loopw [3, 11] (fun t i wr => ∃ (k : Nat) (l : List UInt8), k ≤ L.length ∧ i = .int .i64 k ∧ t = .string (bs l) ∧ l.length ≤ 501 * k ∧ Hid (l = elL (L.take k)) ∧ Hid (Below w.heap.size w wr)) (fun _ i _ => L.length - (intOf i).toNat)
      case atStart => exact ⟨0, [], Nat.zero_le _, rfl, rfl, by simp, Lib.hid rfl, hb1⟩
      case round =>
        obtain ⟨k, l, hk, rfl, rfl, hl, hp, hbr⟩ := hrel
        by_cases hlt : k < L.length
        · obtain ⟨c0, c1⟩ := hcells.out k hlt
          rw [← hbr.out.cell (p := ⟨b, o + k * 2, none⟩) hb] at c0
          rw [← hbr.out.cell (p := ⟨b, o + k * 2 + 1, none⟩) hb] at c1
          obtain ⟨f0, f1⟩ := hf _ (List.getElem_mem hlt)
          have hN := Lib.hid (elL_take hlt)
          have h501 := elT1_len (hmem.out _ (List.getElem_mem hlt))
          obtain ⟨e, he⟩ : ∃ e, L[k] = e := ⟨_, rfl⟩
          rw [he] at c0 c1 f0 f1 hN h501
          have hcat := Lib.hid (elQ_cat l e)
          obtain ⟨nm, tx⟩ := e
          simp only at c0 c1 f0 f1
          have m1 : tx.size ≤ maxLen := by unfold maxLen; omega
          obtain ⟨s1, s2, s3⟩ := elQ_sums l nm tx (by omega) f0
          have n1 := s1
          have n2 := s2
          have n3 := s3
          simp [go_sem] at n1 n2 n3
          have n1 := Nat.not_lt.2 n1
          have n2 := Nat.not_lt.2 n2
          have n3 := Nat.not_lt.2 n3
          have hlen : (l ++ elT1 (nm, tx)).length ≤ 501 * (k + 1) := by rw [List.length_append]; omega
          have hst := Lib.hid (startE (nm := nm) (tx := tx) (t := 72) hbr.out)
          clear he h501
          have hj : (k : Int) < (L.length : Int) := by omega
          go_wp2
          go_region_held3 (fun w' => w'.cell? ⟨wr.heap.size, 0, none⟩ = some (.string nm) ∧ w'.cell? ⟨wr.heap.size, 1, none⟩ = some (.string tx) ∧ Hid (wr.heap.size < w'.heap.size ∧ Below w.heap.size w w'))
            (first | exact hst.out | exact keepE (by assumption) (by assumption) (by assumption) hb3.out | (go_split_ands; exact keepE (by assumption) (by assumption) (by assumption) hb3.out) | go_keep)
            (first | (go_at_call 87; refine (opening_any _ _ f0).mono ?_; rintro e w' ⟨rfl, rfl⟩) | (go_at_call 89; refine (closing_any _ _ f0).mono ?_; rintro e w' ⟨rfl, rfl⟩) | (go_at_call 88; refine (escI_any _ _ m1).mono ?_; rintro e w3 ⟨rfl, hb3⟩; have hb3 := Lib.hid hb3))
          go_split_ands
          rename Hid (wr.heap.size < _ ∧ _) => hS
          go_wp2
          go_roundw
          case rel => exact ⟨k + 1, l ++ elT1 (nm, tx), by omega, by go_num, by rw [← hcat.out]; rfl, hlen, Lib.hid (by rw [hN.out, ← hp.out]), Lib.hid hS.out.2⟩
          case measure => simp [intOf]; omega
        · have hr' : Hid (elT L = l) := Lib.hid (by rw [HX.out, hp.out, List.take_of_length_le (by omega)])
          go_wp2
          go_ret
          exact ⟨by rw [hr'.out]; rfl, hbr.out⟩
theorem infoE : (Try.prog.info? 72).map (fun i => (i.zero, i.size, i.bytes)) = some (some (.agg #[.string ⟨#[]⟩, .string ⟨#[]⟩]), 2, 32) := by kernel_rfl
theorem encE_one (e : ByteArray × ByteArray) (u : Value) (h : u ∈ encE e) : u.oneCell' = true := by
  simp [encE] at h
  rcases h with rfl | rfl <;> rfl
/-- owned elements -/
def OwnE (w : World) (B : Nat) (v : Value) (L : EL) : Prop := OwnG 72 2 encE w B v L
theorem app_elem {ops : Array Oper} {rest : List Oper} {o : Oper} {a : Act} {Q : Exit → Act → World → Prop} {w : World} (hgd : o.guard = none) (s x : Operand)
    (ho : o.op = .call { callee := .builtin .append, args := #[s, x], argTypes := #[73, 73] }) (W : World) (v : Value) (L : EL) (n t : ByteArray) (hs : a.eval s = v)
    (hown : OwnE w W.heap.size v L) (hb : Below W.heap.size W w) (g : Nat) (hgz : w.heap.size = g) (hx : a.eval x = .slice (some ⟨g, 0, none⟩) 1 1) (hl : L.length ≤ 1073741824)
    (h : ∀ v' w', OwnE w' W.heap.size v' (L ++ [(n, t)]) → Below W.heap.size W w' → wpList Try.prog ops Q rest (a.put o.dst v') w') : wpList Try.prog ops Q (o :: rest) a (w.alloc (.cells #[.string n, .string t] 72)) :=
  app_one (enc := encE) hgd s x 73 ho 72 2 32 _ Try.underlying73 infoE rfl (by decide) (by decide) encE_len encE_one W v L (n, t) hs hown hb g hgz hx hl h
/-- the value behind, as it stands in a slot -/
theorem OwnE.shape {w : World} {B : Nat} {v : Value} {L : EL} (h : OwnE w B v L) : ∃ A c, v = .slice A L.length c := by
  obtain ⟨A, c, hv, _⟩ := OwnG.rd h; exact ⟨A, c, hv⟩
theorem Below.drawn {B : Nat} {a w : World} (h : Below B a w) (n : Nat) : Below B a (w.drewN n) := ⟨h.os, h.tape, h.output, h.size, h.block⟩
/-- elements and whether there are any, in memory of the call's own -/
def GotEL (s : List UInt8) (w : World) (e : Ending) (w' : World) : Prop := ∃ (v : Value) (L : EL) (ok : Bool), e = .returned (.tuple #[v, .bool ok]) ∧ RdE s L ok ∧ OwnE w' w.heap.size v L ∧ Below w.heap.size w w'
theorem own_empty (w W : World) (h : W.heap.size ≤ w.heap.size) : OwnE (w.alloc (.cells #[] 72)) W.heap.size (.slice (some ⟨w.heap.size, 0, none⟩) 0 0) [] := by
  have := World.ownsRow_lit (e := 72) (size := 2) (base := W.heap.size) w #[] 0 h (by simp) rfl
  exact this
theorem fitE_of {L : EL} (h : elB L = true) : FitE L := by
  intro e m
  have := okE_of (elB_mem h e m)
  have h1 := (word_len this.1).2
  have h2 := textB_len this.2
  rw [blen] at h1 h2
  omega
end Go.Proofs.Yteknjaocamlcpaa
