/-
  The verifier's own text: ElemFI.
-/
import Derived.Test.YtoiglenodiomhaaRows
import Derived.Test.YtoiglenodiomhaaElemVI
import Derived.Test.YtoiglenodiomhaaEscMore
import Derived.WalkKit
import Derived.ProofKit
import Derived.Below
import Derived.Lib.Hide
import Derived.Outline
import Derived.BigQuiet
import Derived.Deep.QuietTactic
import Derived.Deep.Draws
import Derived.Laws.OwnMore
import Derived.Laws.Rows
import Derived.WalkSpells
import Derived.Deep.RegionWith
namespace Go.Proofs.Ytoiglenodiomhaa
open Go.RowKit
set_option linter.unusedVariables false
set_option maxHeartbeats 1000000 in
theorem elI_find (v : Value) (L : EL) (n : ByteArray) (w : World) (h : RdG encE w v L) (hf : FitE L) :
    Calls Try.prog 23 #[v, .string n] w fun e w' => e = .returned (.tuple #[.string (elX L n).1, .bool (elX L n).2]) ∧ Below w.heap.size w w' := by
  have hv := Lib.hid (elI_valid v L w h hf)
  rcases hB : elB L with _ | _
  · have HB := Lib.hid hB
    have HR := Lib.hid (elX_out n hB)
    clear hB
    go_enter Try.func23, Try.ntmps23
    go_wp2_with (go_at_call 12; refine hv.out.mono ?_; rintro e w1 ⟨rfl, hb1⟩; rw [HB.out])
    go_ret2
    exact ⟨by rw [HR.out]; rfl, hb1⟩
  · have HB := Lib.hid hB
    have HX := Lib.hid (elX_in n hB)
    have h8 := elB_len hB
    clear hB
    by_cases hL : L = []
    · subst hL
      obtain ⟨A, c, rfl, hc⟩ := h.nil
      go_enter Try.func23, Try.ntmps23
      go_wp2_with (go_at_call 12; refine hv.out.mono ?_; rintro e w1 ⟨rfl, hb1⟩; rw [HB.out])
      refine wp_loop_rounds 1 ?_
      rw [rounds_succ]; go_wp2
      go_ret2
      exact ⟨rfl, hb1⟩
    · obtain ⟨b, o, c, rfl, h1, h2, hb, h4⟩ := h.some hL
      unfold maxLen at h2
      have hcells := Lib.hid (fun k (hk : k < L.length) => rdE_cells h4 hk)
      clear h4 hL
      go_enter Try.func23, Try.ntmps23
      go_wp2_with (go_at_call 12; refine hv.out.mono ?_; rintro e w1 ⟨rfl, hb1⟩; rw [HB.out]; have hb1 := Lib.hid hb1)
      go_loopw [13] (fun i wr => ∃ k : Nat, k ≤ L.length ∧ i = .int .i64 k ∧ Hid (∀ i (hi : i < L.length), i < k → L[i].1 ≠ n) ∧ Hid (Below w.heap.size w wr)) (fun i _ => L.length - (intOf i).toNat)
      case atStart => exact ⟨0, Nat.zero_le _, rfl, Lib.hid (by intro i hi h; omega), hb1⟩
      case round =>
        obtain ⟨k, hk, rfl, hp, hbr⟩ := hrel
        by_cases hlt : k < L.length
        · obtain ⟨c0, c1⟩ := hcells.out k hlt
          rw [← hbr.out.cell (p := ⟨b, o + k * 2, none⟩) hb] at c0
          rw [← hbr.out.cell (p := ⟨b, o + k * 2 + 1, none⟩) hb] at c1
          have hat := fun q => elX1_at (n := n) hlt hp.out q
          have hno : L[k].1 ≠ n → ∀ i (hi : i < L.length), i < k + 1 → L[i].1 ≠ n := fun q i hi hik => by
            by_cases e : i = k
            · subst e; exact q
            · exact hp.out i hi (by omega)
          obtain ⟨e, he⟩ : ∃ e, L[k] = e := ⟨_, rfl⟩
          rw [he] at c0 c1 hat hno
          obtain ⟨nm, tx⟩ := e
          simp only at c0 c1 hat hno
          have hsz := hbr.out.size
          have hbn : Hid (Below w.heap.size w (wr.alloc (.cells #[.string nm, .string tx] 27))) := Lib.hid (hbr.out.alloc hsz _)
          have hjj : (k : Int) < (L.length : Int) := by omega
          by_cases hn : nm = n
          · have HR := Lib.hid (hat hn)
            have q := str_same hn
            clear hat hno he hn
            go_wp2
            go_ret2
            exact ⟨by rw [HX.out, HR.out]; rfl, hbn.out⟩
          · have HN := Lib.hid (hno hn)
            have q := str_other hn
            clear hat hno he hn
            go_wp2
            go_roundw
            case rel => exact ⟨k + 1, by omega, by go_num, HN, hbn⟩
            case measure => simp [intOf]; omega
        · have HR := Lib.hid (elX1_none (L := L) (n := n) (fun i hi => hp.out i hi (by omega)))
          go_wp2
          go_ret2
          exact ⟨by rw [HX.out, HR.out]; rfl, hbr.out⟩
end Go.Proofs.Ytoiglenodiomhaa
