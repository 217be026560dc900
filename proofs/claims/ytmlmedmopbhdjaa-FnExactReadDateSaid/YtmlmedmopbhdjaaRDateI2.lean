/-
  The verifier's own text: RDateI2.
-/
import Derived.Test.YtmlmedmopbhdjaaRows
import Derived.Test.YtmlmedmopbhdjaaRDateI
import Derived.WalkKit
import Derived.ProofKit
import Derived.Below
import Derived.Lib.Hide
import Derived.Outline
import Derived.BigQuiet
import Derived.Deep.QuietTactic
import Derived.Deep.Draws
import Derived.Laws.OwnMore
import Derived.Laws.Rows
import Derived.WalkSpells
import Derived.Deep.RegionWith
namespace Go.Proofs.Ytmlmedmopbhdjaa
open Go.RowKit
set_option linter.unusedVariables false
theorem dayN_y {y m d : Int} (h : y < 1) : dayN y m d = -1 := dayN_no (by rw [mdays_out (by omega)]; omega)
theorem dayN_m {y m d : Int} (h : m < 1) : dayN y m d = -1 := dayN_no (by rw [mdays_out (by omega)]; omega)
theorem dayN_d {y m d : Int} (h : d < 1) : dayN y m d = -1 := dayN_no (.inl h)
theorem readD_parts {l : List UInt8} (h : l.length = 10) (p4 : l.getD 4 0 = 46) (p7 : l.getD 7 0 = 46) : readD l = dayN (dval (l.take 4)) (dval ((l.drop 5).take 2)) (dval (l.drop 8)) := by
  rcases ha : (l.take 4).all dcB with _ | _
  · rw [readD_bad (fun g => by have := g.a; rw [ha] at this; cases this), dval_f ha, dayN_y (by omega)]
  · rcases hb : ((l.drop 5).take 2).all dcB with _ | _
    · rw [readD_bad (fun g => by have := g.b; rw [hb] at this; cases this), dval_f hb, dayN_m (by omega)]
    · rcases hc : (l.drop 8).all dcB with _ | _
      · rw [readD_bad (fun g => by have := g.c; rw [hc] at this; cases this), dval_f hc, dayN_d (by omega)]
      · rw [readD_good ⟨h, p4, p7, ha, hb, hc⟩, dval_t ha, dval_t hb, dval_t hc]; rfl
theorem getD_byte (s : ByteArray) (k : Nat) (h : k < s.size) : s.data.toList.getD k 0 = s[k] := by
  rw [List.getD_eq_getElem?_getD, List.getElem?_eq_getElem (by rw [blen]; exact h)]; rfl
theorem byte46 {c : UInt8} (h : ((c.toNat : Int) != 46) = true) : c ≠ 46 := by
  intro e; subst e; simp at h
theorem byte46' {c : UInt8} (h : ((c.toNat : Int) != 46) = false) : c = 46 := by
  have h2 : (c.toNat : Int) = 46 := by simpa using h
  exact UInt8.toNat_inj.1 (show c.toNat = 46 by omega)
theorem rdI_bad (s : ByteArray) (w : World) (hs : s.size ≤ maxLen) (h : s.size ≠ 10) :
    Calls Try.prog 26 #[.string s] w fun e w' => e = .returned (.int .i64 (readD s.data.toList)) ∧ w = w' := by
  unfold maxLen at hs
  have hr := Lib.hid (readD_bad (l := s.data.toList) (fun g => h (by have := g.len; rwa [blen] at this)))
  have t : ((s.size : Int) != 10) = true := by simp; omega
  clear h
  go_enter Try.func26, Try.ntmps26
  go_wp2
  go_ret
  exact ⟨ret_int hr.out.symm, rfl⟩
theorem rdI_in (s : ByteArray) (w : World) (h : s.size = 10) :
    Calls Try.prog 26 #[.string s] w fun e w' => e = .returned (.int .i64 (readD s.data.toList)) ∧ w = w' := by
  have H := Lib.hid h
  have t : ((s.size : Int) != 10) = false := by simp [h]
  have l4 : 4 < s.size := by omega
  have l7 : 7 < s.size := by omega
  have hs : s.size ≤ 10 := by omega
  clear h
  rcases h4 : ((s[4].toNat : Int) != 46) with _ | _
  · rcases h7 : ((s[7].toNat : Int) != 46) with _ | _
    · have hr : Hid (readD s.data.toList = dayN (dval (s.data.toList.take 4)) (dval ((s.data.toList.drop 5).take 2)) (dval ((s.data.toList.drop 8).take (s.size - 8)))) := Lib.hid (by
        rw [readD_parts (by rw [blen, H.out]) (by rw [getD_byte s 4 l4]; exact byte46' h4) (by rw [getD_byte s 7 l7]; exact byte46' h7)]
        rw [List.take_of_length_le (l := s.data.toList.drop 8) (by simp)])
      have z1 : (s.extract 0 4).size ≤ 10 := by rw [ByteArray.size_extract]; omega
      have z2 : (s.extract 5 7).size ≤ 10 := by rw [ByteArray.size_extract]; omega
      have z3 : (s.extract 8 s.size).size ≤ 10 := by rw [ByteArray.size_extract]; omega
      have Z1 := Lib.hid z1
      have Z2 := Lib.hid z2
      have Z3 := Lib.hid z3
      clear z1 z2 z3
      go_enter Try.func26, Try.ntmps26
      go_wp2_with fail
      refine (dval_any _ _ Z1.out).mono ?_
      rintro e w' ⟨rfl, rfl⟩
      go_wp2_with fail
      refine (dval_any _ _ Z2.out).mono ?_
      rintro e w' ⟨rfl, rfl⟩
      go_wp2_with fail
      refine (dval_any _ _ Z3.out).mono ?_
      rintro e w' ⟨rfl, rfl⟩
      go_wp2_with fail
      refine (dayI_any _ _ _ _).mono ?_
      rintro e w' ⟨rfl, rfl⟩
      go_wp2
      go_ret
      exact ⟨ret_int hr.out.symm, rfl⟩
    · have hr := Lib.hid (readD_bad (l := s.data.toList) (fun g => byte46 h7 (by have := g.p7; rwa [getD_byte s 7 l7] at this)))
      go_enter Try.func26, Try.ntmps26
      go_wp2
      go_ret
      exact ⟨ret_int hr.out.symm, rfl⟩
  · have hr := Lib.hid (readD_bad (l := s.data.toList) (fun g => byte46 h4 (by have := g.p4; rwa [getD_byte s 4 l4] at this)))
    go_enter Try.func26, Try.ntmps26
    go_wp2
    go_ret
    exact ⟨ret_int hr.out.symm, rfl⟩
theorem rdI_any (s : ByteArray) (w : World) (hs : s.size ≤ maxLen) :
    Calls Try.prog 26 #[.string s] w fun e w' => e = .returned (.int .i64 (readD s.data.toList)) ∧ w = w' := by
  by_cases h : s.size = 10
  · exact rdI_in s w h
  · exact rdI_bad s w hs h
end Go.Proofs.Ytmlmedmopbhdjaa
