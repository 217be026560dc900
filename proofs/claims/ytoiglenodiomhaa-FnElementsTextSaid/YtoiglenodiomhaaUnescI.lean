/-
  The verifier's own text: UnescI.
-/
import Derived.Test.YtoiglenodiomhaaRows
import Derived.Test.YtoiglenodiomhaaFirstI
import Derived.Test.YtoiglenodiomhaaTextI
import Derived.Test.YtoiglenodiomhaaOwnB
import Derived.Test.YtoiglenodiomhaaUnMath
import Derived.Test.YtoiglenodiomhaaGotTB
import Derived.WalkKit
import Derived.ProofKit
import Derived.Below
import Derived.Lib.Hide
import Derived.Outline
import Derived.BigQuiet
import Derived.Deep.QuietTactic
import Derived.Deep.Draws
import Derived.Laws.OwnMore
import Derived.Laws.Rows
import Derived.WalkSpells
import Derived.Deep.RegionWith
namespace Go.Proofs.Ytoiglenodiomhaa
open Go.RowKit
set_option linter.unusedVariables false
theorem ext_drop (s : ByteArray) (k : Nat) : (s.extract k s.size).data.toList = s.data.toList.drop k := by
  have : (s.extract k s.size).data.toList = (s.data.toList.take s.size).drop k := by simp [List.extract_eq_take_drop, List.drop_take]
  rw [this, bfull s s.size (Nat.le_refl _)]
theorem unI_long (s : ByteArray) (w : World) (hs : s.size ≤ maxLen) (h : 480 < s.size) :
    Calls Try.prog 57 #[.string s] w (GotTB (unT s.data.toList) w) := by
  unfold maxLen at hs
  have HR := Lib.hid (unT_long (l := s.data.toList) (by rw [blen]; exact h))
  go_enter Try.func57, Try.ntmps57
  go_wp2
  go_ret2
  exact ⟨by rw [HR.out]; rfl, Below.refl _ _⟩
set_option maxHeartbeats 2000000 in
theorem unI_in (s : ByteArray) (w : World) (hs : s.size ≤ 480) :
    Calls Try.prog 57 #[.string s] w (GotTB (unT s.data.toList) w) := by
  go_enter Try.func57, Try.ntmps57
  go_wp2_with (at_make; refine make_bytes rfl _ _ rfl w (Below.refl _ _) s.size rfl rfl (by omega) ?_; intro v0 w1 hown0 hb0)
  have hown0 := Lib.hid hown0
  have hb0 := Lib.hid hb0
  go_loopw [4, 5] (fun t i wr => ∃ (k : Nat) (v : Value) (l : List UInt8), k ≤ s.size ∧ i = .int .i64 k ∧ v = t ∧ l.length ≤ k ∧ Hid (escL l = s.data.toList.take k) ∧ Hid (OwnB wr w.heap.size v l) ∧ Hid (Below w.heap.size w wr)) (fun _ i _ => s.size - (intOf i).toNat)
  case atStart => exact ⟨0, _, [], Nat.zero_le _, rfl, rfl, by simp, Lib.hid rfl, hown0, hb0⟩
  case round =>
    obtain ⟨k, v, l, hk, rfl, rfl, hl, hle, hown, hbr⟩ := hrel
    by_cases hlt : k < s.size
    · have hx1 : (s.extract k s.size).size ≤ maxLen := by rw [ByteArray.size_extract]; unfold maxLen; omega
      have hx2 : 0 < (s.extract k s.size).size := by rw [ByteArray.size_extract]; omega
      have hf := firstE_or (s.data.toList.drop k) (drop_ne (by rw [blen]; exact hlt))
      have hq : Hid (firstE (s.extract k s.size).data.toList = firstE (s.data.toList.drop k)) := Lib.hid (by rw [ext_drop])
      rw [← ext_drop] at hf
      obtain ⟨c, n, hcn⟩ : ∃ c n, firstE (s.extract k s.size).data.toList = (c, n) := ⟨_, _, rfl⟩
      rw [hcn] at hf
      have hcn := Lib.hid hcn
      have h63 : l.length ≤ 70368744177664 := by omega
      rcases hf with ⟨a1, a2, a3, a4⟩ | ⟨b1, b2⟩
      · simp only at a1 a2 a3 a4
        have a3' : k + n ≤ s.size := by rw [blen, ByteArray.size_extract] at a3; omega
        have hstep := Lib.hid (dec_step (c := c) (n := n) hle.out (by rw [← ext_drop]; exact a4))
        have hn0 : ((n : Int) == 0) = false := by simp; omega
        clear a3 a4
        go_wp2_with (first | (go_at_call 60; refine (first_any _ _ hx1 hx2).mono ?_; rintro e w2 ⟨rfl, hb2⟩; rw [hcn.out]; have hb3 := Lib.hid (below_trans hbr.out hb2); have hown3 := Lib.hid (hown.out.grown hb2)) | (at_builtin; refine app_byte rfl (.tmp 27) (.tmp 29) rfl w v l c rfl hown3.out hb3.out rfl h63 ?_; intro v1 w3 hown1 hb1))
        go_roundw
        case rel => exact ⟨k + n, _, _, a3', by go_num, rfl, by simp; omega, hstep, Lib.hid hown1, Lib.hid hb1⟩
        case measure => simp [intOf]; omega
      · obtain ⟨rfl, rfl⟩ : c = 0 ∧ n = 0 := by simpa using b1
        have HR := Lib.hid (dec_stop hle.out (by rw [← ext_drop]; exact b2))
        clear b1 b2
        go_wp2_with (first | (go_at_call 60; refine (first_any _ _ hx1 hx2).mono ?_; rintro e w2 ⟨rfl, hb2⟩; rw [hcn.out]; have hb3 := Lib.hid (below_trans hbr.out hb2)))
        go_ret2
        exact ⟨by rw [HR.out]; rfl, hb3.out⟩
    · have hfull : Hid (escL l = s.data.toList) := Lib.hid (by rw [hle.out, bfull s k (by omega)])
      have hcv := conv_own hown.out
      have hsz : (bs l).size ≤ maxLen := by rw [bs_size]; unfold maxLen; omega
      rcases ht : textB l with _ | _
      · have HR := Lib.hid (dec_off hfull.out ht)
        have HT : Hid (textB (bs l).data.toList = false) := Lib.hid ht
        clear ht
        go_wp2_with (go_at_call 33; refine (text_any _ _ hsz).mono ?_; rintro e w' ⟨rfl, rfl⟩; rw [HT.out])
        go_ret2
        exact ⟨by rw [HR.out]; rfl, hbr.out⟩
      · have HR := Lib.hid (un_yes ht hfull.out)
        have HT : Hid (textB (bs l).data.toList = true) := Lib.hid ht
        clear ht
        go_wp2_with (go_at_call 33; refine (text_any _ _ hsz).mono ?_; rintro e w' ⟨rfl, rfl⟩; rw [HT.out])
        go_ret2
        exact ⟨by rw [HR.out]; rfl, hbr.out⟩
theorem unI_any (s : ByteArray) (w : World) (hs : s.size ≤ maxLen) :
    Calls Try.prog 57 #[.string s] w (GotTB (unT s.data.toList) w) := by
  by_cases h : 480 < s.size
  · exact unI_long s w hs h
  · exact unI_in s w (by omega)
end Go.Proofs.Ytoiglenodiomhaa
