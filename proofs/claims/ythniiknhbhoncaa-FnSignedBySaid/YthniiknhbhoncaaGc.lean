/-
  The verifier's own text: WordI In TextI TextS NameI BegI FirstI Alive.
-/
import Derived.Test.YthniiknhbhoncaaRows
import Derived.Test.YthniiknhbhoncaaGa
import Derived.WalkKit
import Derived.ProofKit
import Derived.Below
import Derived.Lib.Hide
import Derived.Outline
import Derived.BigQuiet
import Derived.Deep.QuietTactic
import Derived.Deep.Draws
import Derived.Laws.OwnMore
import Derived.Laws.Rows
import Derived.WalkSpells
import Derived.Deep.RegionWith
namespace Go.Proofs.Ythniiknhbhoncaa
open Go.RowKit
set_option linter.unusedVariables false
theorem isDigit_any (n : Int) (w : World) :
    Calls Try.prog 52 #[.int .u8 n] w fun e w' => e = .returned (.bool (digI n)) ∧ w = w' := by
  go_enter Try.func52, Try.ntmps52
  go_wp2
  all_goals (go_ret; exact ⟨ret_bool (by simp [digI]; omega), rfl⟩)
theorem isSmall_any (n : Int) (w : World) :
    Calls Try.prog 53 #[.int .u8 n] w fun e w' => e = .returned (.bool (smlI n)) ∧ w = w' := by
  go_enter Try.func53, Try.ntmps53
  go_wp2
  all_goals (go_ret; exact ⟨ret_bool (by simp [smlI]; omega), rfl⟩)
set_option maxRecDepth 100000 in
set_option maxHeartbeats 400000 in
theorem word_any (s : ByteArray) (w : World) (hs : s.size ≤ maxLen) :
    Calls Try.prog 35 #[.string s] w fun e w' => e = .returned (.bool (wordB s.data.toList)) ∧ w = w' := by
  unfold maxLen at hs
  by_cases h0 : s.size < 1 ∨ 8 < s.size
  · have hr := Lib.hid (word_short h0)
    go_enter Try.func35, Try.ntmps35
    rcases h0 with h0 | h0 <;> go_wp2 <;> go_ret <;> exact ⟨ret_bool hr.out.symm, rfl⟩
  · have h1 : 1 ≤ s.size := by omega
    have h2 : s.size ≤ 8 := by omega
    clear h0
    rcases hd : digI (s[0].toNat : Int) with _ | _
    · have HD := Lib.hid hd
      go_enter Try.func35, Try.ntmps35
      go_wp2_with (go_at_call 52; refine (isDigit_any _ _).mono ?_; rintro e w' ⟨rfl, rfl⟩)
      clear hd
      go_loop [3] (fun i => ∃ k : Nat, k ≤ s.size ∧ i = .int .i64 k ∧ Hid ((s.data.toList.take k).all wcB = true)) (fun i => s.size - (intOf i).toNat)
      case atStart => exact ⟨0, Nat.zero_le _, rfl, Lib.hid rfl⟩
      case round =>
        obtain ⟨k, hk, rfl, ha⟩ := hrel
        by_cases hlt : k < s.size
        · rcases hx : digI (s[k].toNat : Int) with _ | _
          · rcases hy : smlI (s[k].toNat : Int) with _ | _
            · have hr := Lib.hid (word_bad hlt (wc_no hx hy))
              go_wp2_with (first | (go_at_call 52; refine (isDigit_any _ _).mono ?_; rintro e w' ⟨rfl, rfl⟩) | (go_at_call 53; refine (isSmall_any _ _).mono ?_; rintro e w' ⟨rfl, rfl⟩))
              go_ret
              exact ⟨ret_bool hr.out.symm, rfl⟩
            · have ha' := Lib.hid (all_snoc hlt ha.out (wc_sml hy))
              go_wp2_with (first | (go_at_call 52; refine (isDigit_any _ _).mono ?_; rintro e w' ⟨rfl, rfl⟩) | (go_at_call 53; refine (isSmall_any _ _).mono ?_; rintro e w' ⟨rfl, rfl⟩))
              go_round
              case rel => exact ⟨k + 1, by omega, by go_num, ha'⟩
              case measure => simp [intOf]; omega
          · have ha' := Lib.hid (all_snoc hlt ha.out (wc_dig hx))
            go_wp2_with (first | (go_at_call 52; refine (isDigit_any _ _).mono ?_; rintro e w' ⟨rfl, rfl⟩) | (go_at_call 53; refine (isSmall_any _ _).mono ?_; rintro e w' ⟨rfl, rfl⟩))
            go_round
            case rel => exact ⟨k + 1, by omega, by go_num, ha'⟩
            case measure => simp [intOf]; omega
        · have hr := Lib.hid (word_ok h1 h2 HD.out (by rw [← bfull s k (by omega)]; exact ha.out))
          go_wp2
          go_ret
          exact ⟨ret_bool hr.out.symm, rfl⟩
    · have hr := Lib.hid (word_dig h1 hd)
      go_enter Try.func35, Try.ntmps35
      go_wp2_with (go_at_call 52; refine (isDigit_any _ _).mono ?_; rintro e w' ⟨rfl, rfl⟩)
      go_ret
      exact ⟨ret_bool hr.out.symm, rfl⟩
theorem l1In_any (n lo hi : Int) (w : World) :
    Calls Try.prog 38 #[.int .i64 n, .int .i64 lo, .int .i64 hi] w fun e w' => e = .returned (.bool (inB n lo hi)) ∧ w = w' := by
  go_enter Try.func38, Try.ntmps38
  go_wp2
  all_goals (go_ret; exact ⟨ret_bool (by simp [inB]; omega), rfl⟩)
theorem tbI_any (n : Int) (w : World) :
    Calls Try.prog 46 #[.int .i64 n] w fun e w' => e = .returned (.bool (inB n 32 126)) ∧ w = w' := by
  by_cases h1 : 32 ≤ n
  · have d1 : decide (32 ≤ n) = true := decide_eq_true h1
    by_cases h2 : n ≤ 126
    · have d2 : decide (n ≤ 126) = true := decide_eq_true h2
      have HR := Lib.hid (inB_true h1 h2)
      clear h1 h2
      go_enter Try.func46, Try.ntmps46
      go_wp2
      go_ret
      exact ⟨ret_bool HR.out.symm, rfl⟩
    · have d2 : decide (n ≤ 126) = false := decide_eq_false h2
      have HR := Lib.hid (inB_hi (n := n) (lo := 32) (hi := 126) (by omega))
      clear h1 h2
      go_enter Try.func46, Try.ntmps46
      go_wp2
      go_ret
      exact ⟨ret_bool HR.out.symm, rfl⟩
  · have d1 : decide (32 ≤ n) = false := decide_eq_false h1
    have HR := Lib.hid (inB_lo (n := n) (lo := 32) (hi := 126) (by omega))
    clear h1
    go_enter Try.func46, Try.ntmps46
    go_wp2
    go_ret
    exact ⟨ret_bool HR.out.symm, rfl⟩
set_option maxRecDepth 100000 in
set_option maxHeartbeats 400000 in
theorem text_any (s : ByteArray) (w : World) (hs : s.size ≤ maxLen) :
    Calls Try.prog 29 #[.string s] w fun e w' => e = .returned (.bool (textB s.data.toList)) ∧ w = w' := by
  unfold maxLen at hs
  by_cases hl : 80 < s.size
  · have hr := Lib.hid (text_long hl)
    go_enter Try.func29, Try.ntmps29
    go_wp2
    go_ret
    exact ⟨ret_bool hr.out.symm, rfl⟩
  · have hl' : s.size ≤ 80 := by omega
    clear hl
    go_enter Try.func29, Try.ntmps29
    go_wp2
    go_loopw [3] (fun i wr => ∃ k : Nat, k ≤ s.size ∧ i = .int .i64 k ∧ PreT s.data.toList k ∧ wr = w) (fun i _ => s.size - (intOf i).toNat)
    case atStart => exact ⟨0, Nat.zero_le _, rfl, rfl, rfl⟩
    case round =>
      obtain ⟨k, hk, rfl, hp, rfl⟩ := hrel
      by_cases hlt : k < s.size
      · have hbad := fun q => text_bad (s := s) hlt q
        have hnext := fun q => preT_next (s := s) hlt hp q
        have hb := s[k].toNat_lt
        obtain ⟨c, hc⟩ : ∃ c : Nat, s[k].toNat = c := ⟨_, rfl⟩
        rw [hc] at hbad hnext hb
        have i3 := IntWalk.i64_in (c : Int) (by omega)
        rcases hq : inB (c : Int) 32 126 with _ | _
        · have hr := Lib.hid (hbad (by
            rcases Int.lt_or_le (c : Int) 32 with q | q
            · exact .inl q
            · refine .inr (Int.not_le.1 fun q2 => ?_)
              rw [inB_true q q2] at hq; cases hq))
          have hq := Lib.hid hq
          clear hbad hnext
          go_wp2_with (go_at_call 46; refine (tbI_any (c : Int) _).mono ?_; rintro e w' ⟨rfl, rfl⟩; rw [hq.out])
          go_ret
          exact ⟨ret_bool hr.out.symm, rfl⟩
        · have hcc : 32 ≤ (c : Int) ∧ (c : Int) ≤ 126 := of_decide_eq_true hq
          have hp' := Lib.hid (hnext hcc.1 hcc.2)
          have hq := Lib.hid hq
          clear hbad hnext hcc
          go_wp2_with (go_at_call 46; refine (tbI_any (c : Int) _).mono ?_; rintro e w' ⟨rfl, rfl⟩; rw [hq.out])
          go_roundw
          case rel => exact ⟨k + 1, by omega, by go_num, hp'.out, by trivial⟩
          case measure => simp [intOf]; omega
      · have hr := Lib.hid (text_pre (by omega) hp)
        have hd : Hid (decide ((s.size : Int) ≤ 80) = true) := Lib.hid (by simp; omega)
        go_wp2
        go_ret
        exact ⟨ret_bool (hd.out.symm.trans hr.out), rfl⟩
set_option maxRecDepth 100000 in
set_option maxHeartbeats 400000 in
theorem stext_any (s : ByteArray) (w : World) (hs : s.size ≤ maxLen) :
    Calls Try.prog 32 #[.string s] w fun e w' => e = .returned (.bool (textB s.data.toList)) ∧ w = w' := by
  unfold maxLen at hs
  go_enter Try.func32, Try.ntmps32
  go_wp2
  go_loop [3] (fun i => ∃ k : Nat, k ≤ s.size ∧ i = .int .i64 k ∧ PreT s.data.toList k) (fun i => s.size - (intOf i).toNat)
  case atStart => exact ⟨0, Nat.zero_le _, rfl, rfl⟩
  case round =>
    obtain ⟨k, hk, rfl, hp⟩ := hrel
    by_cases hlt : k < s.size
    · by_cases a : (s[k].toNat : Int) < 32
      · have hr := Lib.hid (text_bad hlt (.inl a))
        go_wp2
        go_ret
        exact ⟨ret_bool hr.out.symm, rfl⟩
      · by_cases b : 126 < (s[k].toNat : Int)
        · have hr := Lib.hid (text_bad hlt (.inr b))
          go_wp2
          go_ret
          exact ⟨ret_bool hr.out.symm, rfl⟩
        · have hp' := preT_next hlt hp (by omega) (by omega)
          have d1 : decide ((s[k].toNat : Int) < 32) = false := by simp; omega
          have d2 : decide (126 < (s[k].toNat : Int)) = false := by simp; omega
          go_wp2
          go_round
          case rel => exact ⟨k + 1, by omega, by go_num, hp'⟩
          case measure => simp [intOf]; omega
    · have hr := Lib.hid (text_pre (by omega) hp)
      go_wp2
      go_ret
      exact ⟨ret_bool hr.out, rfl⟩
/-- the table of names, as it lies in memory -/
def NT : Array Value := #[.int .u8 38, .string (bs [38, 97, 109, 112, 59]), .int .u8 60, .string (bs [38, 108, 116, 59]), .int .u8 62, .string (bs [38, 103, 116, 59]), .int .u8 34, .string (bs [38, 113, 117, 111, 116, 59])]
theorem take_size {s b : ByteArray} (h : s.size < b.size) : decide (s.data.toList.take b.size = b.data.toList) = false := by
  apply decide_eq_false; intro e
  have := congrArg List.length e
  rw [List.length_take, blen, blen] at this; omega
theorem take_ext (s b : ByteArray) : (s.extract 0 b.size = b) ↔ s.data.toList.take b.size = b.data.toList := by
  constructor
  · intro e
    have := congrArg (fun x : ByteArray => x.data.toList) e
    simpa using this
  · intro e
    apply ByteArray.ext; apply Array.toList_inj.1
    simpa using e
/-- a byte and a number, and memory that grew -/
def GotBN (p : UInt8 × Nat) (w : World) (e : Ending) (w' : World) : Prop := e = .returned (.tuple #[.int .u8 p.1.toNat, .int .i64 p.2]) ∧ Below w.heap.size w w'
def tkB (s : ByteArray) (l : List UInt8) : Bool := decide (s.data.toList.take (bs l).size = (bs l).data.toList)
theorem tk_of (s : ByteArray) (l : List UInt8) : tkB s l = decide (s.data.toList.take l.length = l) := rfl
theorem first_of (s : ByteArray) (h : ¬ nmL (s.data.toList.headD 0) = []) :
    (tkB s [38, 97, 109, 112, 59] = true ∧ firstE s.data.toList = (38, 5)) ∨
    (tkB s [38, 97, 109, 112, 59] = false ∧ tkB s [38, 108, 116, 59] = true ∧ firstE s.data.toList = (60, 4)) ∨
    (tkB s [38, 97, 109, 112, 59] = false ∧ tkB s [38, 108, 116, 59] = false ∧ tkB s [38, 103, 116, 59] = true ∧ firstE s.data.toList = (62, 4)) ∨
    (tkB s [38, 97, 109, 112, 59] = false ∧ tkB s [38, 108, 116, 59] = false ∧ tkB s [38, 103, 116, 59] = false ∧ tkB s [38, 113, 117, 111, 116, 59] = true ∧ firstE s.data.toList = (34, 6)) ∨
    (tkB s [38, 97, 109, 112, 59] = false ∧ tkB s [38, 108, 116, 59] = false ∧ tkB s [38, 103, 116, 59] = false ∧ tkB s [38, 113, 117, 111, 116, 59] = false ∧ firstE s.data.toList = (0, 0)) := by
  simp only [tk_of]
  unfold firstE
  rw [if_neg h]
  by_cases b : s.data.toList.take 5 = nmL 38
  · rw [if_pos b]; exact .inl ⟨decide_eq_true b, rfl⟩
  · rw [if_neg b]
    have b' := decide_eq_false b
    by_cases c : s.data.toList.take 4 = nmL 60
    · rw [if_pos c]; exact .inr (.inl ⟨b', decide_eq_true c, rfl⟩)
    · rw [if_neg c]
      have c' := decide_eq_false c
      by_cases d : s.data.toList.take 4 = nmL 62
      · rw [if_pos d]; exact .inr (.inr (.inl ⟨b', c', decide_eq_true d, rfl⟩))
      · rw [if_neg d]
        have d' := decide_eq_false d
        by_cases e : s.data.toList.take 6 = nmL 34
        · rw [if_pos e]; exact .inr (.inr (.inr (.inl ⟨b', c', d', decide_eq_true e, rfl⟩)))
        · rw [if_neg e]; exact .inr (.inr (.inr (.inr ⟨b', c', d', decide_eq_false e, rfl⟩)))
theorem alive_any (w : World) : Calls Try.prog 12 #[] w fun e w' => e = .returned (.bool true) ∧ w = w' := by
  have h1 : Hid (wordB (ByteArray.mk #[97, 49]).data.toList = true) := Lib.hid (by decide)
  have h2 : Hid (wordB (ByteArray.mk #[49, 97]).data.toList = false) := Lib.hid (by decide)
  go_enter Try.func12, Try.ntmps12
  go_wp2_with (first | (go_at_call 35; ((with_reducible refine (word_any ⟨#[97, 49]⟩ _ (by decide)).mono ?_); rintro e w' ⟨rfl, rfl⟩; rw [h1.out])) | (go_at_call 35; ((with_reducible refine (word_any ⟨#[49, 97]⟩ _ (by decide)).mono ?_); rintro e w' ⟨rfl, rfl⟩; rw [h2.out])))
  go_ret
  exact ⟨rfl, rfl⟩
end Go.Proofs.Ythniiknhbhoncaa
