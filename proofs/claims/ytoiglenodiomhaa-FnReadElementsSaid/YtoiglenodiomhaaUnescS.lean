/-
  The verifier's own text: UnescS.
-/
import Derived.Test.YtoiglenodiomhaaRows
import Derived.Test.YtoiglenodiomhaaEscS
import Derived.Test.YtoiglenodiomhaaUnMath
import Derived.Test.YtoiglenodiomhaaGotTB
import Derived.WalkKit
import Derived.ProofKit
import Derived.Below
import Derived.Lib.Hide
import Derived.Outline
import Derived.BigQuiet
import Derived.Deep.QuietTactic
import Derived.Deep.Draws
import Derived.Laws.OwnMore
import Derived.Laws.Rows
import Derived.WalkSpells
import Derived.Deep.RegionWith
namespace Go.Proofs.Ytoiglenodiomhaa
open Go.RowKit
set_option linter.unusedVariables false
theorem ext_take (s : ByteArray) (k n : Nat) : (s.extract k (k + n)).data.toList = (s.data.toList.drop k).take n := by
  simp [List.extract_eq_take_drop]
theorem hit_ext {s : ByteArray} {k : Nat} {c : UInt8} (h : hitU s.data.toList k c) : s.extract k (k + (bs (nmL c)).size) = bs (nmL c) := by
  apply ByteArray.ext; apply Array.toList_inj.1
  rw [ext_take, bs_size]; exact h.2
theorem hit_no {s : ByteArray} {k : Nat} {d : UInt8} (h : ¬ hitU s.data.toList k d) :
    nmL d = [] ∨ (nmL d ≠ [] ∧ s.size < k + (bs (nmL d)).size) ∨ (nmL d ≠ [] ∧ k + (bs (nmL d)).size ≤ s.size ∧ ¬ s.extract k (k + (bs (nmL d)).size) = bs (nmL d)) := by
  by_cases a : nmL d = []
  · exact .inl a
  · by_cases b : s.size < k + (bs (nmL d)).size
    · exact .inr (.inl ⟨a, b⟩)
    · refine .inr (.inr ⟨a, by omega, fun e => h ⟨a, ?_⟩⟩)
      rw [← ext_take s k (nmL d).length]
      have := congrArg (fun x : ByteArray => x.data.toList) e
      exact this
theorem u8_same (d : UInt8) : IntKind.u8.wrap (d.toNat : Int) = (d.toNat : Int) := by
  have := d.toNat_lt
  simp [IntKind.wrap, IntKind.signed, IntKind.bits]; omega
set_option maxHeartbeats 4000000 in
theorem unS_any (s : ByteArray) (w : World) (hs : s.size ≤ 100000000) :
    Calls Try.prog 43 #[.string s] w (GotTB (unT s.data.toList) w) := by
  have happ := bs_append
  go_enter Try.func43, Try.ntmps43
  go_wp2
  go_loopw [4, 5] (fun t i wr => ∃ (k : Nat) (l : List UInt8), k ≤ s.size ∧ i = .int .i64 k ∧ t = .string (bs l) ∧ l.length ≤ 81 ∧ Hid (InvU s.data.toList l k) ∧ Hid (Below w.heap.size w wr)) (fun _ i _ => s.size - (intOf i).toNat)
  case atStart => exact ⟨0, [], Nat.zero_le _, rfl, rfl, by simp, Lib.hid (invU_zero _), Lib.hid (Below.refl _ _)⟩
  case round =>
    obtain ⟨k, l, hk, rfl, rfl, hl, hinv, hbr⟩ := hrel
    by_cases hgo : k < s.size ∧ l.length ≤ 80
    · obtain ⟨hlt, hle⟩ := hgo
      have hq : (bs l).size ≤ 80 := hle
      have qd : decide (((bs l).size : Int) ≤ 80) = true := decide_eq_true (by omega)
      have hq1 : ∀ c : UInt8, (bs l).size + (bs [c]).size ≤ 9223372036854775807 := fun c => by rw [bs_size [c]]; simp; omega
      have hkl : k < s.data.toList.length := by rw [blen]; exact hlt
      have hg := bget s k hlt
      by_cases h38 : s[k] = 38
      · rcases hit_or s.data.toList k with ⟨c, hc⟩ | hno
        · have HX := Lib.hid (hit_ext hc)
          have HS := Lib.hid (invU_step hinv.out hkl (step_hit hkl hc))
          obtain ⟨n1, n2, n3⟩ := hit_len hkl hc
          obtain ⟨c1, c2⟩ := hit_four hc
          have hone : Hid (∀ d : UInt8, d.toNat < c.toNat → ¬ hitU s.data.toList k d) := Lib.hid (fun d hd h => by have := hit_one h hc; subst this; omega)
          have hne : (bs (nmL c)).size ≠ 0 := by rw [bs_size]; omega
          have b1 : ((s[k].toNat : Int) == 38) = true := by rw [h38]; rfl
          rw [blen] at n1
          clear hc h38 hg
          go_wp2
          go_loopw [5, 6, 7] (fun a f i w2 => ∃ b : Nat, 34 ≤ b ∧ b ≤ c.toNat ∧ i = .int .i64 b ∧ a = .int .i64 k ∧ f = .int .u8 s[k].toNat ∧ wr = w2) (fun _ _ i _ => 63 - (intOf i).toNat)
          case atStart => exact ⟨34, by omega, by omega, rfl, rfl, rfl, rfl⟩
          case round =>
            obtain ⟨b, hb1, hb2, rfl, rfl, rfl, rfl⟩ := hrel
            obtain ⟨d, rfl⟩ : ∃ d : UInt8, d.toNat = b := ⟨UInt8.ofNat b, by rw [UInt8.toNat_ofNat']; omega⟩
            have hw := u8_same d
            by_cases hdc : d = c
            · subst hdc
              have z := str_ne hne
              have z2 := str_full hne
              have h6 : (bs (nmL d)).size ≤ 6 := nm_len d
              have h1 : 1 ≤ (bs (nmL d)).size := n2
              have hfit : k + (bs (nmL d)).size ≤ s.size := n1
              have q := str_same HX.out
              have hcv := conv1 wr d
              have hq2 := hq1 d
              clear hne hq1
              go_wp2_with (go_at_call 54; refine (l3Name_any _ _).mono ?_; rintro e w' ⟨rfl, rfl⟩)
              go_roundw
              case rel => exact ⟨k + (bs (nmL d)).size, _, by omega, by go_num, rfl, by simp; omega, HS, Lib.hid (hbr.out.alloc hbr.out.size _)⟩
              case measure => simp [intOf]; omega
            · have hlt' : d.toNat < c.toNat := by
                rcases Nat.lt_or_ge d.toNat c.toNat with h | h
                · exact h
                · exact absurd (UInt8.toNat_inj.1 (by omega)) hdc
              have hmode := hit_no (hone.out d hlt')
              clear hne hdc hq1
              rcases hmode with m | ⟨m, m2⟩ | ⟨m, m2, m3⟩
              · have z : (bs (nmL d)).toList = [] := by rw [m]; exact str_nil rfl
                clear m
                go_wp2_with (go_at_call 54; refine (l3Name_any _ _).mono ?_; rintro e w' ⟨rfl, rfl⟩)
                go_roundw
                case rel => exact ⟨d.toNat + 1, by omega, by omega, by go_num, rfl, rfl, by trivial⟩
                case measure => simp [intOf]; omega
              · have hn : (bs (nmL d)).size ≠ 0 := by rw [bs_size]; exact fun h => m (List.length_eq_zero_iff.1 h)
                have z := str_ne hn
                have z2 := str_full hn
                have h6 : (bs (nmL d)).size ≤ 6 := nm_len d
                clear m hn
                go_wp2_with (go_at_call 54; refine (l3Name_any _ _).mono ?_; rintro e w' ⟨rfl, rfl⟩)
                go_roundw
                case rel => exact ⟨d.toNat + 1, by omega, by omega, by go_num, rfl, rfl, by trivial⟩
                case measure => simp [intOf]; omega
              · have hn : (bs (nmL d)).size ≠ 0 := by rw [bs_size]; exact fun h => m (List.length_eq_zero_iff.1 h)
                have z := str_ne hn
                have z2 := str_full hn
                have h6 : (bs (nmL d)).size ≤ 6 := nm_len d
                have q := str_other m3
                clear m m3 hn
                go_wp2_with (go_at_call 54; refine (l3Name_any _ _).mono ?_; rintro e w' ⟨rfl, rfl⟩)
                go_roundw
                case rel => exact ⟨d.toNat + 1, by omega, by omega, by go_num, rfl, rfl, by trivial⟩
                case measure => simp [intOf]; omega
        · have HS := Lib.hid (invU_step (c := s[k]) (n := 1) hinv.out hkl (.inr (step_none hkl (by rw [hg]; exact h38) hno)))
          have hno := Lib.hid hno
          have b1 : ((s[k].toNat : Int) == 38) = true := by rw [h38]; rfl
          have hcv := conv1 wr s[k]
          have hq2 := hq1 s[k]
          clear hq1 h38 hg
          go_wp2
          go_loopw [5, 6, 7] (fun a f i w2 => ∃ b : Nat, 34 ≤ b ∧ b ≤ 63 ∧ i = .int .i64 b ∧ a = .int .i64 k ∧ f = .int .u8 s[k].toNat ∧ wr = w2) (fun _ _ i _ => 63 - (intOf i).toNat)
          case atStart => exact ⟨34, by omega, by omega, rfl, rfl, rfl, rfl⟩
          case round =>
            obtain ⟨b, hb1, hb2, rfl, rfl, rfl, rfl⟩ := hrel
            by_cases hb3 : b ≤ 62
            · obtain ⟨d, rfl⟩ : ∃ d : UInt8, d.toNat = b := ⟨UInt8.ofNat b, by rw [UInt8.toNat_ofNat']; omega⟩
              have hw := u8_same d
              have hmode := hit_no (hno.out d)
              rcases hmode with m | ⟨m, m2⟩ | ⟨m, m2, m3⟩
              · have z : (bs (nmL d)).toList = [] := by rw [m]; exact str_nil rfl
                clear m
                go_wp2_with (go_at_call 54; refine (l3Name_any _ _).mono ?_; rintro e w' ⟨rfl, rfl⟩)
                go_roundw
                case rel => exact ⟨d.toNat + 1, by omega, by omega, by go_num, rfl, rfl, by trivial⟩
                case measure => simp [intOf]; omega
              · have hn : (bs (nmL d)).size ≠ 0 := by rw [bs_size]; exact fun h => m (List.length_eq_zero_iff.1 h)
                have z := str_ne hn
                have z2 := str_full hn
                have h6 : (bs (nmL d)).size ≤ 6 := nm_len d
                clear m hn
                go_wp2_with (go_at_call 54; refine (l3Name_any _ _).mono ?_; rintro e w' ⟨rfl, rfl⟩)
                go_roundw
                case rel => exact ⟨d.toNat + 1, by omega, by omega, by go_num, rfl, rfl, by trivial⟩
                case measure => simp [intOf]; omega
              · have hn : (bs (nmL d)).size ≠ 0 := by rw [bs_size]; exact fun h => m (List.length_eq_zero_iff.1 h)
                have z := str_ne hn
                have z2 := str_full hn
                have h6 : (bs (nmL d)).size ≤ 6 := nm_len d
                have q := str_other m3
                clear m m3 hn
                go_wp2_with (go_at_call 54; refine (l3Name_any _ _).mono ?_; rintro e w' ⟨rfl, rfl⟩)
                go_roundw
                case rel => exact ⟨d.toNat + 1, by omega, by omega, by go_num, rfl, rfl, by trivial⟩
                case measure => simp [intOf]; omega
            · have hb4 : b = 63 := by omega
              subst hb4
              go_wp2
              go_roundw
              case rel => exact ⟨k + 1, _, by omega, by go_num, rfl, by simp; omega, HS, Lib.hid (hbr.out.alloc hbr.out.size _)⟩
              case measure => simp [intOf]; omega
      · have b1 : ((s[k].toNat : Int) == 38) = false := byte_ne (d := 38) (by omega) h38
        have HS := Lib.hid (invU_step hinv.out hkl (step_plain hkl (by rw [hg]; exact h38)))
        have hcv := conv1 wr s[k]
        have hq2 := hq1 s[k]
        clear hq1 h38 hg
        go_wp2
        go_roundw
        case rel => exact ⟨k + 1, _, by omega, by go_num, rfl, by simp; omega, HS, Lib.hid (hbr.out.alloc hbr.out.size _)⟩
        case measure => simp [intOf]; omega
    · have hm : (bs l).size ≤ maxLen := by rw [bs_size]; unfold maxLen; omega
      have hq : decide (k < s.size) = false ∨ (decide (k < s.size) = true ∧ decide (((bs l).size : Int) ≤ 80) = false) := by
        by_cases q : k < s.size
        · exact .inr ⟨decide_eq_true q, decide_eq_false (fun h => hgo ⟨q, by rw [bs_size] at h; omega⟩)⟩
        · exact .inl (decide_eq_false q)
      have hend : s.data.toList.length ≤ k ∨ 80 < l.length := by
        rw [blen]
        by_cases q : k < s.size
        · exact .inr (by rcases Nat.lt_or_ge 80 l.length with h | h; exact h; exact absurd ⟨q, h⟩ hgo)
        · exact .inl (by omega)
      by_cases hok : textB l = true ∧ escL l = s.data.toList
      · obtain ⟨ht, he⟩ := hok
        have HR := Lib.hid (un_yes ht he)
        have HT : Hid (textB (bs l).data.toList = true) := Lib.hid ht
        have HE : Hid (bs (escT (bs l).data.toList) = s) := Lib.hid (by rw [bs_data, escT_in ht, he]; rfl)
        have q1 := str_same (a := s) (b := s) rfl
        clear ht he hend hgo
        rcases hq with hq | ⟨hq, hq2⟩
        all_goals
          go_wp2_with (first | (go_at_call 35; refine (stext_any _ _ hm).mono ?_; rintro e w' ⟨rfl, rfl⟩; rw [HT.out]) | (go_at_call 39; refine (escS_any _ _ hm).mono ?_; rintro e w' ⟨rfl, rfl⟩; rw [HE.out]))
          go_ret2
          exact ⟨by rw [HR.out]; rfl, hbr.out⟩
      · have HR : Hid (unT s.data.toList = ([], false)) := Lib.hid (by
          rcases hend with h | h
          · exact un_off hinv.out h hok
          · exact un_long hinv.out h)
        rcases ht : textB l with _ | _
        · have HT : Hid (textB (bs l).data.toList = false) := Lib.hid ht
          clear ht hend hgo hok
          rcases hq with hq | ⟨hq, hq2⟩
          all_goals
            go_wp2_with (go_at_call 35; refine (stext_any _ _ hm).mono ?_; rintro e w' ⟨rfl, rfl⟩; rw [HT.out])
            go_ret2
            exact ⟨by rw [HR.out]; rfl, hbr.out⟩
        · have HT : Hid (textB (bs l).data.toList = true) := Lib.hid ht
          obtain ⟨x, hx⟩ : ∃ x, bs (escT (bs l).data.toList) = x := ⟨_, rfl⟩
          have q1 : (x.toList == s.toList) = false := str_other (by
            intro e
            refine hok ⟨ht, ?_⟩
            rw [← hx, bs_data, escT_in ht] at e
            rw [← e, bs_data])
          have HE := Lib.hid hx
          clear ht hend hgo hok hx
          rcases hq with hq | ⟨hq, hq2⟩
          all_goals
            go_wp2_with (first | (go_at_call 35; refine (stext_any _ _ hm).mono ?_; rintro e w' ⟨rfl, rfl⟩; rw [HT.out]) | (go_at_call 39; refine (escS_any _ _ hm).mono ?_; rintro e w' ⟨rfl, rfl⟩; rw [HE.out]))
            go_ret2
            exact ⟨by rw [HR.out]; rfl, hbr.out⟩
end Go.Proofs.Ytoiglenodiomhaa
