/-
  The verifier's own text: ElemS.
-/
import Derived.Test.YtoiglenodiomhaaRows
import Derived.Test.YtoiglenodiomhaaElemMath
import Derived.Test.YtoiglenodiomhaaRdG
import Derived.Test.YtoiglenodiomhaaWordS
import Derived.Test.YtoiglenodiomhaaTextS
import Derived.WalkKit
import Derived.ProofKit
import Derived.Below
import Derived.Lib.Hide
import Derived.Outline
import Derived.BigQuiet
import Derived.Deep.QuietTactic
import Derived.Deep.Draws
import Derived.Laws.OwnMore
import Derived.Laws.Rows
import Derived.WalkSpells
import Derived.Deep.RegionWith
namespace Go.Proofs.Ytoiglenodiomhaa
open Go.RowKit
set_option linter.unusedVariables false
/-- the cells of an element -/
def encE (e : ByteArray × ByteArray) : List Value := [.string e.1, .string e.2]
theorem encE_len (e : ByteArray × ByteArray) : (encE e).length = 2 := rfl
/-- strings that are no longer than a slice may be -/
def FitE (L : EL) : Prop := ∀ e ∈ L, e.1.size ≤ 100000000 ∧ e.2.size ≤ 100000000
theorem rdE_cells {w : World} {b o : Nat} {L : EL} (h : ∀ j u, (L.flatMap encE)[j]? = some u → w.cell? ⟨b, o + j, none⟩ = some u) {k : Nat} (hk : k < L.length) :
    w.cell? ⟨b, o + k * 2, none⟩ = some (.string L[k].1) ∧ w.cell? ⟨b, o + k * 2 + 1, none⟩ = some (.string L[k].2) := by
  constructor
  · have := flat_get encE_len L k hk 0 (by omega)
    exact h (k * 2) (.string L[k].1) this
  · have := flat_get encE_len L k hk 1 (by omega)
    have h2 := h (k * 2 + 1) (.string L[k].2) this
    rw [← Nat.add_assoc] at h2; exact h2
set_option maxHeartbeats 400000 in
theorem elS_valid (v : Value) (L : EL) (w : World) (h : RdG encE w v L) (hf : FitE L) :
    Calls Try.prog 13 #[v] w fun e w' => e = .returned (.bool (elB L)) ∧ w = w' := by
  by_cases hL : L = []
  · subst hL
    obtain ⟨A, c, rfl, hc⟩ := h.nil
    go_enter Try.func13, Try.ntmps13
    go_wp2
    refine wp_loop_rounds 1 ?_
    rw [rounds_succ]; go_wp2
    go_ret
    exact ⟨rfl, rfl⟩
  · obtain ⟨b, o, c, rfl, h1, h2, hb, h4⟩ := h.some hL
    unfold maxLen at h2
    have hcells := Lib.hid (fun k (hk : k < L.length) => rdE_cells h4 hk)
    clear h4 hL
    go_enter Try.func13, Try.ntmps13
    go_wp2
    go_loop [3] (fun i => ∃ k : Nat, k ≤ L.length ∧ i = .int .i64 k ∧ Hid ((L.take k).all okE = true)) (fun i => L.length - (intOf i).toNat)
    case atStart => exact ⟨0, Nat.zero_le _, rfl, Lib.hid rfl⟩
    case round =>
      obtain ⟨k, hk, rfl, hp⟩ := hrel
      by_cases hlt : k < L.length
      · obtain ⟨c0, c1⟩ := hcells.out k hlt
        obtain ⟨f0, f1⟩ := hf _ (List.getElem_mem hlt)
        have hbad := fun q => elB_bad (L := L) hlt q
        have hok := fun q => take_all (p := okE) hlt hp.out q
        obtain ⟨e, he⟩ : ∃ e, L[k] = e := ⟨_, rfl⟩
        rw [he] at c0 c1 f0 f1 hbad hok
        obtain ⟨nm, tx⟩ := e
        simp only at c0 c1 f0 f1
        have m0 : nm.size ≤ maxLen := by unfold maxLen; omega
        have m1 : tx.size ≤ maxLen := by unfold maxLen; omega
        rcases hw : wordB nm.data.toList with _ | _
        · have HR := Lib.hid (hbad (okE_word hw))
          have HW := Lib.hid hw
          clear hw hbad hok he
          go_wp2_with (go_at_call 34; refine (sword_any _ _ m0).mono ?_; rintro e w' ⟨rfl, rfl⟩; rw [HW.out])
          go_ret
          exact ⟨ret_bool HR.out.symm, rfl⟩
        · have HW := Lib.hid hw
          rcases ht : textB tx.data.toList with _ | _
          · have HR := Lib.hid (hbad (okE_text ht))
            have HT := Lib.hid ht
            clear hw ht hbad hok he
            go_wp2_with (first | (go_at_call 34; refine (sword_any _ _ m0).mono ?_; rintro e w' ⟨rfl, rfl⟩; rw [HW.out]) | (go_at_call 35; refine (stext_any _ _ m1).mono ?_; rintro e w' ⟨rfl, rfl⟩; rw [HT.out]))
            go_ret
            exact ⟨ret_bool HR.out.symm, rfl⟩
          · have HN := Lib.hid (hok (okE_both hw ht))
            have HT := Lib.hid ht
            clear hw ht hbad hok he
            go_wp2_with (first | (go_at_call 34; refine (sword_any _ _ m0).mono ?_; rintro e w' ⟨rfl, rfl⟩; rw [HW.out]) | (go_at_call 35; refine (stext_any _ _ m1).mono ?_; rintro e w' ⟨rfl, rfl⟩; rw [HT.out]))
            go_round
            case rel => exact ⟨k + 1, by omega, by go_num, HN⟩
            case measure => simp [intOf]; omega
      · have hr := Lib.hid (elB_end (by omega) hp.out)
        go_wp2
        go_ret
        exact ⟨ret_bool hr.out, rfl⟩
end Go.Proofs.Ytoiglenodiomhaa
