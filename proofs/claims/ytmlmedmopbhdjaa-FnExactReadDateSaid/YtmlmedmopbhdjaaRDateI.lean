/-
  The verifier's own text: RDateI.
-/
import Derived.Test.YtmlmedmopbhdjaaRows
import Derived.Test.YtmlmedmopbhdjaaDayI
import Derived.WalkKit
import Derived.ProofKit
import Derived.Below
import Derived.Lib.Hide
import Derived.Outline
import Derived.BigQuiet
import Derived.Deep.QuietTactic
import Derived.Deep.Draws
import Derived.Laws.OwnMore
import Derived.Laws.Rows
import Derived.WalkSpells
import Derived.Deep.RegionWith
namespace Go.Proofs.Ytmlmedmopbhdjaa
open Go.RowKit
set_option linter.unusedVariables false
theorem rdv_neg {l : List UInt8} {k : Nat} (h : k < l.length) (b : dcB l[k] = false) : l.all dcB = false := by
  rw [List.all_eq_false]; exact ⟨_, List.getElem_mem h, by simp [b]⟩
theorem pow10_le {L : Nat} (h : L ≤ 10) : (10 : Int) ^ L ≤ 10000000000 := by
  have h2 := Nat.pow_le_pow_right (n := 10) (by omega) h
  have e : ((10 ^ L : Nat) : Int) = (10 : Int) ^ L := by simp
  rw [← e]
  exact Int.ofNat_le.2 (Nat.le_trans h2 (by decide))
/-- digits, or -1 -/
def dval (l : List UInt8) : Int := if l.all dcB then rdv l else -1
theorem dval_t {l : List UInt8} (h : l.all dcB = true) : dval l = rdv l := by simp [dval, h]
theorem dval_f {l : List UInt8} (h : l.all dcB = false) : dval l = -1 := by simp [dval, h]
theorem isDigD_any (n : Int) (w : World) :
    Calls Try.prog 42 #[.int .u8 n] w fun e w' => e = .returned (.bool (digI n)) ∧ w = w' := by
  go_enter Try.func42, Try.ntmps42
  go_wp2
  all_goals (go_ret; exact ⟨ret_bool (by simp [digI]; omega), rfl⟩)
theorem dval_any (s : ByteArray) (w : World) (hs : s.size ≤ 10) :
    Calls Try.prog 40 #[.string s] w fun e w' => e = .returned (.int .i64 (dval s.data.toList)) ∧ w = w' := by
  go_enter Try.func40, Try.ntmps40
  go_wp2
  go_loop [3, 4] (fun v i => ∃ (k : Nat) (n : Int), k ≤ s.size ∧ 0 ≤ n ∧ n < 10000000000 ∧ i = .int .i64 k ∧ v = .int .i64 n ∧ Hid (n = rdv (s.data.toList.take k) ∧ (s.data.toList.take k).all dcB = true)) (fun _ i => s.size - (intOf i).toNat)
  case atStart => exact ⟨0, 0, Nat.zero_le _, by omega, by omega, rfl, rfl, Lib.hid ⟨rfl, rfl⟩⟩
  case round =>
    obtain ⟨k, n, hk, hn, hn2, rfl, rfl, hp⟩ := hrel
    by_cases hlt : k < s.size
    · rcases hd : dcB s[k] with _ | _
      · have hr := Lib.hid (dval_f (rdv_neg (l := s.data.toList) (k := k) (by rw [blen]; exact hlt) (by rw [bget s k hlt]; exact hd)))
        have hd' : Hid (digI (s[k].toNat : Int) = false) := Lib.hid hd
        clear hd
        go_wp2_with (go_at_call 42; refine (isDigD_any _ _).mono ?_; rintro e w' ⟨rfl, rfl⟩; rw [hd'.out])
        go_ret
        exact ⟨ret_int hr.out.symm, rfl⟩
      · have hb := digI_bd (n := (s[k].toNat : Int)) hd
        have hp' : Hid (n * 10 + ((s[k].toNat : Int) - 48) = rdv (s.data.toList.take (k + 1)) ∧ (s.data.toList.take (k + 1)).all dcB = true) := Lib.hid ⟨by
          rw [btake s k hlt, rdv_snoc, hp.out.1]; unfold dvB; omega, all_snoc hlt hp.out.2 hd⟩
        have hbd := rdv_bd _ hp'.out.2
        rw [← hp'.out.1] at hbd
        have hbd2 : n * 10 + ((s[k].toNat : Int) - 48) < 10000000000 := by
          refine Int.lt_of_lt_of_le hbd.2 ?_
          have hl : (s.data.toList.take (k + 1)).length ≤ 10 := Nat.le_trans (List.length_take_le' _ _) (by rw [blen]; exact hs)
          exact pow10_le hl
        have hbd1 := Lib.hid hbd.1
        have hbd2 := Lib.hid hbd2
        clear hbd
        have hb := Lib.hid hb
        have hd' : Hid (digI (s[k].toNat : Int) = true) := Lib.hid hd
        clear hd
        go_wp2_with (go_at_call 42; refine (isDigD_any _ _).mono ?_; rintro e w' ⟨rfl, rfl⟩; rw [hd'.out]; obtain ⟨hb1, hb2⟩ := hb.out)
        go_round
        case rel => exact ⟨k + 1, _, by omega, hbd1.out, hbd2.out, by go_num, rfl, hp'⟩
        case measure => simp [intOf]; omega
    · have hr : Hid (dval s.data.toList = n) := Lib.hid (by
        have e := bfull s k (by omega)
        have h1 := hp.out.1; have h2 := hp.out.2
        rw [e] at h1 h2
        rw [dval_t h2]; exact h1.symm)
      go_wp2
      go_ret
      exact ⟨ret_int hr.out.symm, rfl⟩

theorem ext_list (s : ByteArray) (a b : Nat) : (s.extract a b).data.toList = (s.data.toList.drop a).take (b - a) := by
  simp [ByteArray.data_extract, List.extract]
end Go.Proofs.Ytmlmedmopbhdjaa
