/-
  The verifier's own text: NameS EscS UnescI UnescS.
-/
import Derived.Test.YteknjaocamlcpaaRows
import Derived.Test.YteknjaocamlcpaaGa
import Derived.Test.YteknjaocamlcpaaGc
import Derived.Test.YteknjaocamlcpaaGb
import Derived.WalkKit
import Derived.ProofKit
import Derived.Below
import Derived.Lib.Hide
import Derived.Outline
import Derived.BigQuiet
import Derived.Deep.QuietTactic
import Derived.Deep.Draws
import Derived.Laws.OwnMore
import Derived.Laws.Rows
import Derived.WalkSpells
import Derived.Deep.RegionWith
namespace Go.Proofs.Yteknjaocamlcpaa
open Go.RowKit
set_option linter.unusedVariables false
theorem l3Name_any (c : UInt8) (w : World) :
    Calls Try.prog 100 #[.int .u8 c.toNat] w fun e w' => e = .returned (.string (bs (nmL c))) ∧ w = w' := by
  have hc := nm_cases c
  have ne : ∀ d : UInt8, c ≠ d → (((c.toNat : Nat) : Int) == ((d.toNat : Nat) : Int)) = false := by
    intro d h; rw [beq_eq_false_iff_ne]; intro e; apply h; apply UInt8.toNat_inj.1; omega
  rcases hc with ⟨rfl, h⟩ | ⟨rfl, h⟩ | ⟨rfl, h⟩ | ⟨rfl, h⟩ | ⟨a1, a2, a3, a4, h⟩
  · clear ne
    have h := Lib.hid h
    go_enter Try.func100, Try.ntmps100
    go_wp2
    go_ret
    exact ⟨by rw [h.out]; rfl, rfl⟩
  · clear ne
    have h := Lib.hid h
    go_enter Try.func100, Try.ntmps100
    go_wp2
    go_ret
    exact ⟨by rw [h.out]; rfl, rfl⟩
  · clear ne
    have h := Lib.hid h
    go_enter Try.func100, Try.ntmps100
    go_wp2
    go_ret
    exact ⟨by rw [h.out]; rfl, rfl⟩
  · clear ne
    have h := Lib.hid h
    go_enter Try.func100, Try.ntmps100
    go_wp2
    go_ret
    exact ⟨by rw [h.out]; rfl, rfl⟩
  · have h := Lib.hid h
    have b1 : ((c.toNat : Int) == 38) = false := ne 38 a1
    have b2 : ((c.toNat : Int) == 60) = false := ne 60 a2
    have b3 : ((c.toNat : Int) == 62) = false := ne 62 a3
    have b4 : ((c.toNat : Int) == 34) = false := ne 34 a4
    clear ne a1 a2 a3 a4
    go_enter Try.func100, Try.ntmps100
    go_wp2
    go_ret
    exact ⟨by rw [h.out]; rfl, rfl⟩
set_option maxRecDepth 100000 in
set_option maxHeartbeats 400000 in
theorem escS_any (s : ByteArray) (w : World) (hs : s.size ≤ maxLen) :
    Calls Try.prog 91 #[.string s] w fun e w' => e = .returned (.string (bs (escT s.data.toList))) ∧ w = w' := by
  have hs' := hs
  unfold maxLen at hs'
  rcases ht : textB s.data.toList with _ | _
  · have HT := Lib.hid ht
    have HR := Lib.hid (escT_out ht)
    clear ht
    by_cases h0 : s.size = 0
    · go_enter Try.func91, Try.ntmps91
      go_wp2
      refine wp_loop_rounds 1 ?_
      rw [rounds_succ]; go_wp2
      go_ret
      exact ⟨by rw [HR.out]; rfl, rfl⟩
    · have hp : 0 < s.size := by omega
      clear h0
      go_enter Try.func91, Try.ntmps91
      go_wp2
      refine wp_loop_rounds 1 ?_
      rw [rounds_succ]
      go_wp2_with (go_at_call 62; refine (stext_any _ _ hs).mono ?_; rintro e w' ⟨rfl, rfl⟩; rw [HT.out])
      go_ret
      exact ⟨by rw [HR.out]; rfl, rfl⟩
  · have HT := Lib.hid ht
    have HR := Lib.hid (escT_in ht)
    have h80 := text_80 ht
    have happ := bs_append
    clear ht
    go_enter Try.func91, Try.ntmps91
    go_wp2
    go_loop [3, 4] (fun t i => ∃ (k : Nat) (l : List UInt8), k ≤ s.size ∧ i = .int .i64 k ∧ t = .string (bs l) ∧ l.length ≤ 480 ∧ Hid (l = escL (s.data.toList.take k))) (fun _ i => s.size - (intOf i).toNat)
    case atStart => exact ⟨0, [], Nat.zero_le _, rfl, rfl, by simp, Lib.hid rfl⟩
    case round =>
      obtain ⟨k, l, hk, rfl, rfl, hl, hle⟩ := hrel
      by_cases hlt : k < s.size
      · have hsz : (bs l).size + (bs (nmL s[k])).size ≤ 9223372036854775807 := by rw [bs_size, bs_size]; have := nm_len s[k]; omega
        have hsz1 : (bs l).size + (bs [s[k]]).size ≤ 9223372036854775807 := by rw [bs_size, bs_size]; simp; omega
        have hx := ext1 s k hlt
        have hn : Hid (escL (s.data.toList.take (k + 1)) = l ++ escB s[k]) := Lib.hid (by rw [esc_next hlt, ← hle.out])
        have h480 := esc_short (s := s) (k + 1) h80
        by_cases he : nmL s[k] = []
        · have z : (bs (nmL s[k])).toList = [] := by rw [he]; exact str_nil rfl
          have hb := Lib.hid (escB_plain he)
          clear he
          go_wp2_with (first | (go_at_call 62; refine (stext_any _ _ hs).mono ?_; rintro e w' ⟨rfl, rfl⟩; rw [HT.out]) | (go_at_call 100; refine (l3Name_any _ _).mono ?_; rintro e w' ⟨rfl, rfl⟩))
          go_round
          case rel => exact ⟨k + 1, _, by omega, by go_num, rfl, by rw [← hb.out, ← hn.out]; exact h480, Lib.hid (by rw [hn.out, hb.out])⟩
          case measure => simp [intOf]; omega
        · have hne : (bs (nmL s[k])).size ≠ 0 := by rw [bs_size]; exact fun h => he (List.length_eq_zero_iff.1 h)
          have z := str_ne hne
          have z2 := str_full hne
          have hb := Lib.hid (escB_named he)
          clear he hne
          go_wp2_with (first | (go_at_call 62; refine (stext_any _ _ hs).mono ?_; rintro e w' ⟨rfl, rfl⟩; rw [HT.out]) | (go_at_call 100; refine (l3Name_any _ _).mono ?_; rintro e w' ⟨rfl, rfl⟩))
          go_round
          case rel => exact ⟨k + 1, _, by omega, by go_num, rfl, by rw [← hb.out, ← hn.out]; exact h480, Lib.hid (by rw [hn.out, hb.out])⟩
          case measure => simp [intOf]; omega
      · have hr' : Hid (escT s.data.toList = l) := Lib.hid (by rw [HR.out, hle.out, bfull s k (by omega)])
        go_wp2
        go_ret
        exact ⟨by rw [hr'.out]; rfl, rfl⟩
theorem ext_drop (s : ByteArray) (k : Nat) : (s.extract k s.size).data.toList = s.data.toList.drop k := by
  have : (s.extract k s.size).data.toList = (s.data.toList.take s.size).drop k := by simp [List.extract_eq_take_drop, List.drop_take]
  rw [this, bfull s s.size (Nat.le_refl _)]
theorem unI_long (s : ByteArray) (w : World) (hs : s.size ≤ maxLen) (h : 480 < s.size) :
    Calls Try.prog 103 #[.string s] w (GotTB (unT s.data.toList) w) := by
  unfold maxLen at hs
  have HR := Lib.hid (unT_long (l := s.data.toList) (by rw [blen]; exact h))
  go_enter Try.func103, Try.ntmps103
  go_wp2
  go_ret2
  exact ⟨by rw [HR.out]; rfl, Below.refl _ _⟩
set_option maxRecDepth 100000 in
set_option maxHeartbeats 2000000 in
theorem unI_in (s : ByteArray) (w : World) (hs : s.size ≤ 480) :
    Calls Try.prog 103 #[.string s] w (GotTB (unT s.data.toList) w) := by
  go_enter Try.func103, Try.ntmps103
  go_wp2_with (at_make; refine make_bytes rfl _ _ rfl w (Below.refl _ _) s.size rfl rfl (by omega) ?_; intro v0 w1 hown0 hb0)
  have hown0 := Lib.hid hown0
  have hb0 := Lib.hid hb0
  go_loopw [4, 5] (fun t i wr => ∃ (k : Nat) (v : Value) (l : List UInt8), k ≤ s.size ∧ i = .int .i64 k ∧ v = t ∧ l.length ≤ k ∧ Hid (escL l = s.data.toList.take k) ∧ Hid (OwnB wr w.heap.size v l) ∧ Hid (Below w.heap.size w wr)) (fun _ i _ => s.size - (intOf i).toNat)
  case atStart => exact ⟨0, _, [], Nat.zero_le _, rfl, rfl, by simp, Lib.hid rfl, hown0, hb0⟩
  case round =>
    obtain ⟨k, v, l, hk, rfl, rfl, hl, hle, hown, hbr⟩ := hrel
    by_cases hlt : k < s.size
    · have hx1 : (s.extract k s.size).size ≤ maxLen := by rw [ByteArray.size_extract]; unfold maxLen; omega
      have hx2 : 0 < (s.extract k s.size).size := by rw [ByteArray.size_extract]; omega
      have hf := firstE_or (s.data.toList.drop k) (drop_ne (by rw [blen]; exact hlt))
      have hq : Hid (firstE (s.extract k s.size).data.toList = firstE (s.data.toList.drop k)) := Lib.hid (by rw [ext_drop])
      rw [← ext_drop] at hf
      obtain ⟨c, n, hcn⟩ : ∃ c n, firstE (s.extract k s.size).data.toList = (c, n) := ⟨_, _, rfl⟩
      rw [hcn] at hf
      have hcn := Lib.hid hcn
      have h63 : l.length ≤ 70368744177664 := by omega
      rcases hf with ⟨a1, a2, a3, a4⟩ | ⟨b1, b2⟩
      · simp only at a1 a2 a3 a4
        have a3' : k + n ≤ s.size := by rw [blen, ByteArray.size_extract] at a3; omega
        have hstep := Lib.hid (dec_step (c := c) (n := n) hle.out (by rw [← ext_drop]; exact a4))
        have hn0 : ((n : Int) == 0) = false := by simp; omega
        clear a3 a4
        go_wp2_with (first | (go_at_call 110; refine (first_any _ _ hx1 hx2).mono ?_; rintro e w2 ⟨rfl, hb2⟩; rw [hcn.out]; have hb3 := Lib.hid (below_trans hbr.out hb2); have hown3 := Lib.hid (hown.out.grown hb2)) | (at_builtin; refine app_byte rfl (.tmp 27) (.tmp 29) rfl w v l c rfl hown3.out hb3.out rfl h63 ?_; intro v1 w3 hown1 hb1))
        go_roundw
        case rel => exact ⟨k + n, _, _, a3', by go_num, rfl, by simp; omega, hstep, Lib.hid hown1, Lib.hid hb1⟩
        case measure => simp [intOf]; omega
      · obtain ⟨rfl, rfl⟩ : c = 0 ∧ n = 0 := by simpa using b1
        have HR := Lib.hid (dec_stop hle.out (by rw [← ext_drop]; exact b2))
        clear b1 b2
        go_wp2_with (first | (go_at_call 110; refine (first_any _ _ hx1 hx2).mono ?_; rintro e w2 ⟨rfl, hb2⟩; rw [hcn.out]; have hb3 := Lib.hid (below_trans hbr.out hb2)))
        go_ret2
        exact ⟨by rw [HR.out]; rfl, hb3.out⟩
    · have hfull : Hid (escL l = s.data.toList) := Lib.hid (by rw [hle.out, bfull s k (by omega)])
      have hcv := conv_own hown.out
      have hsz : (bs l).size ≤ maxLen := by rw [bs_size]; unfold maxLen; omega
      rcases ht : textB l with _ | _
      · have HR := Lib.hid (dec_off hfull.out ht)
        have HT : Hid (textB (bs l).data.toList = false) := Lib.hid ht
        clear ht
        go_wp2_with (go_at_call 59; refine (text_any _ _ hsz).mono ?_; rintro e w' ⟨rfl, rfl⟩; rw [HT.out])
        go_ret2
        exact ⟨by rw [HR.out]; rfl, hbr.out⟩
      · have HR := Lib.hid (un_yes ht hfull.out)
        have HT : Hid (textB (bs l).data.toList = true) := Lib.hid ht
        clear ht
        go_wp2_with (go_at_call 59; refine (text_any _ _ hsz).mono ?_; rintro e w' ⟨rfl, rfl⟩; rw [HT.out])
        go_ret2
        exact ⟨by rw [HR.out]; rfl, hbr.out⟩
theorem unI_any (s : ByteArray) (w : World) (hs : s.size ≤ maxLen) :
    Calls Try.prog 103 #[.string s] w (GotTB (unT s.data.toList) w) := by
  by_cases h : 480 < s.size
  · exact unI_long s w hs h
  · exact unI_in s w (by omega)
theorem ext_take (s : ByteArray) (k n : Nat) : (s.extract k (k + n)).data.toList = (s.data.toList.drop k).take n := by
  simp [List.extract_eq_take_drop]
theorem hit_ext {s : ByteArray} {k : Nat} {c : UInt8} (h : hitU s.data.toList k c) : s.extract k (k + (bs (nmL c)).size) = bs (nmL c) := by
  apply ByteArray.ext; apply Array.toList_inj.1
  rw [ext_take, bs_size]; exact h.2
theorem hit_no {s : ByteArray} {k : Nat} {d : UInt8} (h : ¬ hitU s.data.toList k d) :
    nmL d = [] ∨ (nmL d ≠ [] ∧ s.size < k + (bs (nmL d)).size) ∨ (nmL d ≠ [] ∧ k + (bs (nmL d)).size ≤ s.size ∧ ¬ s.extract k (k + (bs (nmL d)).size) = bs (nmL d)) := by
  by_cases a : nmL d = []
  · exact .inl a
  · by_cases b : s.size < k + (bs (nmL d)).size
    · exact .inr (.inl ⟨a, b⟩)
    · refine .inr (.inr ⟨a, by omega, fun e => h ⟨a, ?_⟩⟩)
      rw [← ext_take s k (nmL d).length]
      have := congrArg (fun x : ByteArray => x.data.toList) e
      exact this
theorem u8_same (d : UInt8) : IntKind.u8.wrap (d.toNat : Int) = (d.toNat : Int) := by
  have := d.toNat_lt
  simp [IntKind.wrap, IntKind.signed, IntKind.bits]; omega
set_option maxRecDepth 100000 in
set_option maxHeartbeats 4000000 in
theorem unS_any (s : ByteArray) (w : World) (hs : s.size ≤ 100000000) :
    Calls Try.prog 96 #[.string s] w (GotTB (unT s.data.toList) w) := by
  have happ := bs_append
  go_enter Try.func96, Try.ntmps96
  go_wp2
  go_loopw [4, 5] (fun t i wr => ∃ (k : Nat) (l : List UInt8), k ≤ s.size ∧ i = .int .i64 k ∧ t = .string (bs l) ∧ l.length ≤ 81 ∧ Hid (InvU s.data.toList l k) ∧ Hid (Below w.heap.size w wr)) (fun _ i _ => s.size - (intOf i).toNat)
  case atStart => exact ⟨0, [], Nat.zero_le _, rfl, rfl, by simp, Lib.hid (invU_zero _), Lib.hid (Below.refl _ _)⟩
  case round =>
    obtain ⟨k, l, hk, rfl, rfl, hl, hinv, hbr⟩ := hrel
    by_cases hgo : k < s.size ∧ l.length ≤ 80
    · obtain ⟨hlt, hle⟩ := hgo
      have hq : (bs l).size ≤ 80 := hle
      have qd : decide (((bs l).size : Int) ≤ 80) = true := decide_eq_true (by omega)
      have hq1 : ∀ c : UInt8, (bs l).size + (bs [c]).size ≤ 9223372036854775807 := fun c => by rw [bs_size [c]]; simp; omega
      have hkl : k < s.data.toList.length := by rw [blen]; exact hlt
      have hg := bget s k hlt
      by_cases h38 : s[k] = 38
      · rcases hit_or s.data.toList k with ⟨c, hc⟩ | hno
        · have HX := Lib.hid (hit_ext hc)
          have HS := Lib.hid (invU_step hinv.out hkl (step_hit hkl hc))
          obtain ⟨n1, n2, n3⟩ := hit_len hkl hc
          obtain ⟨c1, c2⟩ := hit_four hc
          have hone : Hid (∀ d : UInt8, d.toNat < c.toNat → ¬ hitU s.data.toList k d) := Lib.hid (fun d hd h => by have := hit_one h hc; subst this; omega)
          have hne : (bs (nmL c)).size ≠ 0 := by rw [bs_size]; omega
          have b1 : ((s[k].toNat : Int) == 38) = true := by rw [h38]; rfl
          rw [blen] at n1
          clear hc h38 hg
          go_wp2
          go_loopw [5, 6, 7] (fun a f i w2 => ∃ b : Nat, 34 ≤ b ∧ b ≤ c.toNat ∧ i = .int .i64 b ∧ a = .int .i64 k ∧ f = .int .u8 s[k].toNat ∧ wr = w2) (fun _ _ i _ => 63 - (intOf i).toNat)
          case atStart => exact ⟨34, by omega, by omega, rfl, rfl, rfl, rfl⟩
          case round =>
            obtain ⟨b, hb1, hb2, rfl, rfl, rfl, rfl⟩ := hrel
            obtain ⟨d, rfl⟩ : ∃ d : UInt8, d.toNat = b := ⟨UInt8.ofNat b, by rw [UInt8.toNat_ofNat']; omega⟩
            have hw := u8_same d
            by_cases hdc : d = c
            · subst hdc
              have z := str_ne hne
              have z2 := str_full hne
              have h6 : (bs (nmL d)).size ≤ 6 := nm_len d
              have h1 : 1 ≤ (bs (nmL d)).size := n2
              have hfit : k + (bs (nmL d)).size ≤ s.size := n1
              have q := str_same HX.out
              have hcv := conv1 wr d
              have hq2 := hq1 d
              clear hne hq1
              go_wp2_with (go_at_call 100; refine (l3Name_any _ _).mono ?_; rintro e w' ⟨rfl, rfl⟩)
              go_roundw
              case rel => exact ⟨k + (bs (nmL d)).size, _, by omega, by go_num, rfl, by simp; omega, HS, Lib.hid (hbr.out.alloc hbr.out.size _)⟩
              case measure => simp [intOf]; omega
            · have hlt' : d.toNat < c.toNat := by
                rcases Nat.lt_or_ge d.toNat c.toNat with h | h
                · exact h
                · exact absurd (UInt8.toNat_inj.1 (by omega)) hdc
              have hmode := hit_no (hone.out d hlt')
              clear hne hdc hq1
              rcases hmode with m | ⟨m, m2⟩ | ⟨m, m2, m3⟩
              · have z : (bs (nmL d)).toList = [] := by rw [m]; exact str_nil rfl
                clear m
                go_wp2_with (go_at_call 100; refine (l3Name_any _ _).mono ?_; rintro e w' ⟨rfl, rfl⟩)
                go_roundw
                case rel => exact ⟨d.toNat + 1, by omega, by omega, by go_num, rfl, rfl, by trivial⟩
                case measure => simp [intOf]; omega
              · have hn : (bs (nmL d)).size ≠ 0 := by rw [bs_size]; exact fun h => m (List.length_eq_zero_iff.1 h)
                have z := str_ne hn
                have z2 := str_full hn
                have h6 : (bs (nmL d)).size ≤ 6 := nm_len d
                clear m hn
                go_wp2_with (go_at_call 100; refine (l3Name_any _ _).mono ?_; rintro e w' ⟨rfl, rfl⟩)
                go_roundw
                case rel => exact ⟨d.toNat + 1, by omega, by omega, by go_num, rfl, rfl, by trivial⟩
                case measure => simp [intOf]; omega
              · have hn : (bs (nmL d)).size ≠ 0 := by rw [bs_size]; exact fun h => m (List.length_eq_zero_iff.1 h)
                have z := str_ne hn
                have z2 := str_full hn
                have h6 : (bs (nmL d)).size ≤ 6 := nm_len d
                have q := str_other m3
                clear m m3 hn
                go_wp2_with (go_at_call 100; refine (l3Name_any _ _).mono ?_; rintro e w' ⟨rfl, rfl⟩)
                go_roundw
                case rel => exact ⟨d.toNat + 1, by omega, by omega, by go_num, rfl, rfl, by trivial⟩
                case measure => simp [intOf]; omega
        · have HS := Lib.hid (invU_step (c := s[k]) (n := 1) hinv.out hkl (.inr (step_none hkl (by rw [hg]; exact h38) hno)))
          have hno := Lib.hid hno
          have b1 : ((s[k].toNat : Int) == 38) = true := by rw [h38]; rfl
          have hcv := conv1 wr s[k]
          have hq2 := hq1 s[k]
          clear hq1 h38 hg
          go_wp2
          go_loopw [5, 6, 7] (fun a f i w2 => ∃ b : Nat, 34 ≤ b ∧ b ≤ 63 ∧ i = .int .i64 b ∧ a = .int .i64 k ∧ f = .int .u8 s[k].toNat ∧ wr = w2) (fun _ _ i _ => 63 - (intOf i).toNat)
          case atStart => exact ⟨34, by omega, by omega, rfl, rfl, rfl, rfl⟩
          case round =>
            obtain ⟨b, hb1, hb2, rfl, rfl, rfl, rfl⟩ := hrel
            by_cases hb3 : b ≤ 62
            · obtain ⟨d, rfl⟩ : ∃ d : UInt8, d.toNat = b := ⟨UInt8.ofNat b, by rw [UInt8.toNat_ofNat']; omega⟩
              have hw := u8_same d
              have hmode := hit_no (hno.out d)
              rcases hmode with m | ⟨m, m2⟩ | ⟨m, m2, m3⟩
              · have z : (bs (nmL d)).toList = [] := by rw [m]; exact str_nil rfl
                clear m
                go_wp2_with (go_at_call 100; refine (l3Name_any _ _).mono ?_; rintro e w' ⟨rfl, rfl⟩)
                go_roundw
                case rel => exact ⟨d.toNat + 1, by omega, by omega, by go_num, rfl, rfl, by trivial⟩
                case measure => simp [intOf]; omega
              · have hn : (bs (nmL d)).size ≠ 0 := by rw [bs_size]; exact fun h => m (List.length_eq_zero_iff.1 h)
                have z := str_ne hn
                have z2 := str_full hn
                have h6 : (bs (nmL d)).size ≤ 6 := nm_len d
                clear m hn
                go_wp2_with (go_at_call 100; refine (l3Name_any _ _).mono ?_; rintro e w' ⟨rfl, rfl⟩)
                go_roundw
                case rel => exact ⟨d.toNat + 1, by omega, by omega, by go_num, rfl, rfl, by trivial⟩
                case measure => simp [intOf]; omega
              · have hn : (bs (nmL d)).size ≠ 0 := by rw [bs_size]; exact fun h => m (List.length_eq_zero_iff.1 h)
                have z := str_ne hn
                have z2 := str_full hn
                have h6 : (bs (nmL d)).size ≤ 6 := nm_len d
                have q := str_other m3
                clear m m3 hn
                go_wp2_with (go_at_call 100; refine (l3Name_any _ _).mono ?_; rintro e w' ⟨rfl, rfl⟩)
                go_roundw
                case rel => exact ⟨d.toNat + 1, by omega, by omega, by go_num, rfl, rfl, by trivial⟩
                case measure => simp [intOf]; omega
            · have hb4 : b = 63 := by omega
              subst hb4
              go_wp2
              go_roundw
              case rel => exact ⟨k + 1, _, by omega, by go_num, rfl, by simp; omega, HS, Lib.hid (hbr.out.alloc hbr.out.size _)⟩
              case measure => simp [intOf]; omega
      · have b1 : ((s[k].toNat : Int) == 38) = false := byte_ne (d := 38) (by omega) h38
        have HS := Lib.hid (invU_step hinv.out hkl (step_plain hkl (by rw [hg]; exact h38)))
        have hcv := conv1 wr s[k]
        have hq2 := hq1 s[k]
        clear hq1 h38 hg
        go_wp2
        go_roundw
        case rel => exact ⟨k + 1, _, by omega, by go_num, rfl, by simp; omega, HS, Lib.hid (hbr.out.alloc hbr.out.size _)⟩
        case measure => simp [intOf]; omega
    · have hm : (bs l).size ≤ maxLen := by rw [bs_size]; unfold maxLen; omega
      have hq : decide (k < s.size) = false ∨ (decide (k < s.size) = true ∧ decide (((bs l).size : Int) ≤ 80) = false) := by
        by_cases q : k < s.size
        · exact .inr ⟨decide_eq_true q, decide_eq_false (fun h => hgo ⟨q, by rw [bs_size] at h; omega⟩)⟩
        · exact .inl (decide_eq_false q)
      have hend : s.data.toList.length ≤ k ∨ 80 < l.length := by
        rw [blen]
        by_cases q : k < s.size
        · exact .inr (by rcases Nat.lt_or_ge 80 l.length with h | h; exact h; exact absurd ⟨q, h⟩ hgo)
        · exact .inl (by omega)
      by_cases hok : textB l = true ∧ escL l = s.data.toList
      · obtain ⟨ht, he⟩ := hok
        have HR := Lib.hid (un_yes ht he)
        have HT : Hid (textB (bs l).data.toList = true) := Lib.hid ht
        have HE : Hid (bs (escT (bs l).data.toList) = s) := Lib.hid (by rw [bs_data, escT_in ht, he]; rfl)
        have q1 := str_same (a := s) (b := s) rfl
        clear ht he hend hgo
        rcases hq with hq | ⟨hq, hq2⟩
        all_goals
          go_wp2_with (first | (go_at_call 62; refine (stext_any _ _ hm).mono ?_; rintro e w' ⟨rfl, rfl⟩; rw [HT.out]) | (go_at_call 91; refine (escS_any _ _ hm).mono ?_; rintro e w' ⟨rfl, rfl⟩; rw [HE.out]))
          go_ret2
          exact ⟨by rw [HR.out]; rfl, hbr.out⟩
      · have HR : Hid (unT s.data.toList = ([], false)) := Lib.hid (by
          rcases hend with h | h
          · exact un_off hinv.out h hok
          · exact un_long hinv.out h)
        rcases ht : textB l with _ | _
        · have HT : Hid (textB (bs l).data.toList = false) := Lib.hid ht
          clear ht hend hgo hok
          rcases hq with hq | ⟨hq, hq2⟩
          all_goals
            go_wp2_with (go_at_call 62; refine (stext_any _ _ hm).mono ?_; rintro e w' ⟨rfl, rfl⟩; rw [HT.out])
            go_ret2
            exact ⟨by rw [HR.out]; rfl, hbr.out⟩
        · have HT : Hid (textB (bs l).data.toList = true) := Lib.hid ht
          obtain ⟨x, hx⟩ : ∃ x, bs (escT (bs l).data.toList) = x := ⟨_, rfl⟩
          have q1 : (x.toList == s.toList) = false := str_other (by
            intro e
            refine hok ⟨ht, ?_⟩
            rw [← hx, bs_data, escT_in ht] at e
            rw [← e, bs_data])
          have HE := Lib.hid hx
          clear ht hend hgo hok hx
          rcases hq with hq | ⟨hq, hq2⟩
          all_goals
            go_wp2_with (first | (go_at_call 62; refine (stext_any _ _ hm).mono ?_; rintro e w' ⟨rfl, rfl⟩; rw [HT.out]) | (go_at_call 91; refine (escS_any _ _ hm).mono ?_; rintro e w' ⟨rfl, rfl⟩; rw [HE.out]))
            go_ret2
            exact ⟨by rw [HR.out]; rfl, hbr.out⟩
end Go.Proofs.Yteknjaocamlcpaa
