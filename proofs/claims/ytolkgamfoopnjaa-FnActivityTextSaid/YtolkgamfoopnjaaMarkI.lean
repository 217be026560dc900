/-
  The verifier's own text: MarkI.
-/
import Derived.Test.YtolkgamfoopnjaaRows
import Derived.Test.YtolkgamfoopnjaaMarkSlice
import Derived.Test.YtolkgamfoopnjaaNumI
import Derived.WalkKit
import Derived.ProofKit
import Derived.Below
import Derived.Lib.Hide
import Derived.Outline
import Derived.BigQuiet
import Derived.Deep.QuietTactic
import Derived.Deep.Draws
import Derived.Laws.OwnMore
import Derived.Laws.Rows
import Derived.WalkSpells
import Derived.Deep.RegionWith
namespace Go.Proofs.Ytolkgamfoopnjaa
open Go.RowKit
set_option linter.unusedVariables false
theorem digit_any (d : Nat) (w : World) (h : d < 36) :
    Calls Try.prog 34 #[.int .i64 d] w fun e w' => e = .returned (.string (bs [mdig d])) ∧ w = w' := by
  have hs := slice_digit d (by omega) (by omega)
  go_enter Try.func34, Try.ntmps34
  go_wp2
  go_ret
  exact ⟨rfl, rfl⟩
theorem mark_any (n : Int) (w : World) :
    Calls Try.prog 15 #[.int .i64 n] w fun e w' => e = .returned (.string (bs (markT n))) ∧ w = w' := by
  by_cases h : n < 0 ∨ 1000000000 < n
  · have hr := Lib.hid (markT_out h)
    have hq : Hid (inB n 0 1000000000 = false) := Lib.hid (by rcases h with h | h; exact inB_lo h; exact inB_hi h)
    clear h
    go_enter Try.func15, Try.ntmps15
    go_wp2_with (go_at_call 32; refine (num_any n _).mono ?_; rintro e w' ⟨rfl, rfl⟩; rw [hq.out])
    go_ret
    exact ⟨by rw [hr.out]; rfl, rfl⟩
  · obtain ⟨m, rfl⟩ : ∃ m : Nat, n = m := ⟨n.toNat, by omega⟩
    have hm : m ≤ 1000000000 := by omega
    have hq : Hid (inB (m : Int) 0 1000000000 = true) := Lib.hid (inB_true (by omega) (by omega))
    clear h
    go_enter Try.func15, Try.ntmps15
    go_wp2_with (first | (go_at_call 32; ((with_reducible refine (num_any (m : Int) _).mono ?_); rintro e w' ⟨rfl, rfl⟩; rw [hq.out])) | (go_at_call 34; refine (digit_any (m % 36) _ (by omega)).mono ?_; rintro e w' ⟨rfl, rfl⟩))
    have happ := bs_append
    go_loop [3, 4] (fun t r => ∃ (q : Nat) (l : List UInt8), q ≤ 1000000000 ∧ l.length + q ≤ 1000000001 ∧ r = .int .i64 q ∧ t = .string (bs l) ∧ Hid (markL m = mk q ++ l)) (fun _ r => (intOf r).toNat)
    case atStart => exact ⟨m / 36, [mdig (m % 36)], by omega, by simp; omega, by go_num, rfl, Lib.hid rfl⟩
    case round =>
      obtain ⟨q, l, hq, hlen, rfl, rfl, hl⟩ := hrel
      by_cases h0 : 0 < q
      · have hl' : Hid (markL m = mk (q / 36) ++ (mdig (q % 36) :: l)) := Lib.hid (by rw [hl.out, mk_pos h0]; simp)
        have hsz : (bs [mdig (q % 36)]).size + (bs l).size ≤ 9223372036854775807 := by rw [bs_size, bs_size]; simp; omega
        go_wp2_with (go_at_call 34; refine (digit_any (q % 36) _ (by omega)).mono ?_; rintro e w' ⟨rfl, rfl⟩)
        go_round
        case rel => exact ⟨q / 36, _, by omega, by simp; omega, by go_num, rfl, hl'⟩
        case measure => simp [intOf]; omega
      · have hr : Hid (markT m = l) := Lib.hid (by
          rw [markT_in hm, hl.out]
          have e : q = 0 := by omega
          rw [e]; rfl)
        go_wp2
        go_ret
        exact ⟨ret_str hr.out.symm, rfl⟩
end Go.Proofs.Ytolkgamfoopnjaa
