/-
  The verifier's own text: ElemVI.
-/
import Derived.Test.YtoiglenodiomhaaRows
import Derived.Test.YtoiglenodiomhaaElemS
import Derived.Test.YtoiglenodiomhaaWordI
import Derived.Test.YtoiglenodiomhaaTextI
import Derived.Test.YtoiglenodiomhaaGot
import Derived.WalkKit
import Derived.ProofKit
import Derived.Below
import Derived.Lib.Hide
import Derived.Outline
import Derived.BigQuiet
import Derived.Deep.QuietTactic
import Derived.Deep.Draws
import Derived.Laws.OwnMore
import Derived.Laws.Rows
import Derived.WalkSpells
import Derived.Deep.RegionWith
namespace Go.Proofs.Ytoiglenodiomhaa
open Go.RowKit
set_option linter.unusedVariables false
theorem elI_big (v : Value) (L : EL) (w : World) (h : RdG encE w v L) (h8 : 8 < L.length) :
    Calls Try.prog 12 #[v] w fun e w' => e = .returned (.bool (elB L)) ∧ w = w' := by
  have hL : L ≠ [] := by intro e; rw [e] at h8; simp at h8
  obtain ⟨b, o, c, rfl, h1, h2, hb, h4⟩ := h.some hL
  unfold maxLen at h2
  clear h4 hL
  have HR : Hid (elB L = false) := Lib.hid (by
    rcases q : elB L with _ | _
    · rfl
    · have := elB_len q; omega)
  go_enter Try.func12, Try.ntmps12
  go_wp2
  go_ret
  exact ⟨ret_bool HR.out.symm, rfl⟩
/-- a bool, and memory that grew -/
def GotB (b : Bool) (w : World) (e : Ending) (w' : World) : Prop := e = .returned (.bool b) ∧ Below w.heap.size w w'
set_option maxHeartbeats 1000000 in
theorem elI_valid (v : Value) (L : EL) (w : World) (h : RdG encE w v L) (hf : FitE L) :
    Calls Try.prog 12 #[v] w (GotB (elB L) w) := by
  by_cases h8 : 8 < L.length
  · refine (elI_big v L w h h8).mono ?_
    rintro e w' ⟨rfl, rfl⟩
    exact ⟨rfl, Below.refl _ _⟩
  by_cases hL : L = []
  · subst hL
    obtain ⟨A, c, rfl, hc⟩ := h.nil
    go_enter Try.func12, Try.ntmps12
    go_wp2
    refine wp_loop_rounds 1 ?_
    rw [rounds_succ]; go_wp2
    go_ret
    exact ⟨rfl, Below.refl _ _⟩
  · obtain ⟨b, o, c, rfl, h1, h2, hb, h4⟩ := h.some hL
    unfold maxLen at h2
    have hcells := Lib.hid (fun k (hk : k < L.length) => rdE_cells h4 hk)
    clear h4 hL
    go_enter Try.func12, Try.ntmps12
    go_wp2
    go_loopw [10] (fun i wr => ∃ k : Nat, k ≤ L.length ∧ i = .int .i64 k ∧ Hid ((L.take k).all okE = true) ∧ Hid (Below w.heap.size w wr)) (fun i _ => L.length - (intOf i).toNat)
    case atStart => exact ⟨0, Nat.zero_le _, rfl, Lib.hid rfl, Lib.hid (Below.refl _ _)⟩
    case round =>
      obtain ⟨k, hk, rfl, hp, hbr⟩ := hrel
      by_cases hlt : k < L.length
      · obtain ⟨c0, c1⟩ := hcells.out k hlt
        rw [← hbr.out.cell (p := ⟨b, o + k * 2, none⟩) hb] at c0
        rw [← hbr.out.cell (p := ⟨b, o + k * 2 + 1, none⟩) hb] at c1
        obtain ⟨f0, f1⟩ := hf _ (List.getElem_mem hlt)
        have hbad := fun q => elB_bad (L := L) hlt q
        have hok := fun q => take_all (p := okE) hlt hp.out q
        obtain ⟨e, he⟩ : ∃ e, L[k] = e := ⟨_, rfl⟩
        rw [he] at c0 c1 f0 f1 hbad hok
        obtain ⟨nm, tx⟩ := e
        simp only at c0 c1 f0 f1
        have m0 : nm.size ≤ maxLen := by unfold maxLen; omega
        have m1 : tx.size ≤ maxLen := by unfold maxLen; omega
        have hsz := hbr.out.size
        have hbn : Hid (Below w.heap.size w (wr.alloc (.cells #[.string nm, .string tx] 27))) := Lib.hid (hbr.out.alloc hsz _)
        have hjj : (k : Int) < (L.length : Int) := by omega
        rcases hw : wordB nm.data.toList with _ | _
        · have HR := Lib.hid (hbad (okE_word hw))
          have HW := Lib.hid hw
          clear hw hbad hok he
          go_wp2_with (go_at_call 32; refine (word_any _ _ m0).mono ?_; rintro e w' ⟨rfl, rfl⟩; rw [HW.out])
          go_ret
          exact ⟨ret_bool HR.out.symm, hbn.out⟩
        · have HW := Lib.hid hw
          rcases ht : textB tx.data.toList with _ | _
          · have HR := Lib.hid (hbad (okE_text ht))
            have HT := Lib.hid ht
            clear hw ht hbad hok he
            go_wp2_with (first | (go_at_call 32; refine (word_any _ _ m0).mono ?_; rintro e w' ⟨rfl, rfl⟩; rw [HW.out]) | (go_at_call 33; refine (text_any _ _ m1).mono ?_; rintro e w' ⟨rfl, rfl⟩; rw [HT.out]))
            go_ret
            exact ⟨ret_bool HR.out.symm, hbn.out⟩
          · have HN := Lib.hid (hok (okE_both hw ht))
            have HT := Lib.hid ht
            clear hw ht hbad hok he
            go_wp2_with (first | (go_at_call 32; refine (word_any _ _ m0).mono ?_; rintro e w' ⟨rfl, rfl⟩; rw [HW.out]) | (go_at_call 33; refine (text_any _ _ m1).mono ?_; rintro e w' ⟨rfl, rfl⟩; rw [HT.out]))
            go_roundw
            case rel => exact ⟨k + 1, by omega, by go_num, HN, hbn⟩
            case measure => simp [intOf]; omega
      · have hr := Lib.hid (elB_end (by omega) hp.out)
        have h8' : decide ((L.length : Int) ≤ 8) = true := decide_eq_true (by omega)
        go_wp2
        go_ret
        exact ⟨ret_bool (by rw [← hr.out, h8']), hbr.out⟩
end Go.Proofs.Ytoiglenodiomhaa
