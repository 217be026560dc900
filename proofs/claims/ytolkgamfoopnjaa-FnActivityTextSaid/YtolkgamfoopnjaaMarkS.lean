/-
  The verifier's own text: MarkS.
-/
import Derived.Test.YtolkgamfoopnjaaRows
import Derived.Test.YtolkgamfoopnjaaMarkSlice
import Derived.Test.YtolkgamfoopnjaaGc
import Derived.WalkKit
import Derived.ProofKit
import Derived.Below
import Derived.Lib.Hide
import Derived.Outline
import Derived.BigQuiet
import Derived.Deep.QuietTactic
import Derived.Deep.Draws
import Derived.Laws.OwnMore
import Derived.Laws.Rows
import Derived.WalkSpells
import Derived.Deep.RegionWith
namespace Go.Proofs.Ytolkgamfoopnjaa
open Go.RowKit
set_option linter.unusedVariables false
theorem smark_any (n : Int) (w : World) :
    Calls Try.prog 18 #[.int .i64 n] w fun e w' => e = .returned (.string (bs (markT n))) ∧ w = w' := by
  by_cases h : n < 0 ∨ 1000000000 < n
  · have hr := Lib.hid (markT_out h)
    have hi : Hid (inB n 0 1000000000 = false) := by rcases h with h | h; exact Lib.hid (inB_lo h); exact Lib.hid (inB_hi h)
    go_enter Try.func18, Try.ntmps18
    go_wp2_with (go_at_call 20; refine (l1In_any _ _ _ _).mono ?_; rintro e w' ⟨rfl, rfl⟩; rw [hi.out])
    go_ret
    exact ⟨by rw [hr.out]; rfl, rfl⟩
  · obtain ⟨m, rfl⟩ : ∃ m : Nat, n = m := ⟨n.toNat, by omega⟩
    have hm : m ≤ 1000000000 := by omega
    have hi : Hid (inB m 0 1000000000 = true) := Lib.hid (inB_true (by omega) (by omega))
    clear h
    have happ := bs_append
    have hs0 := slice_mod m
    go_enter Try.func18, Try.ntmps18
    go_wp2_with (go_at_call 20; refine (l1In_any _ _ _ _).mono ?_; rintro e w' ⟨rfl, rfl⟩; rw [hi.out])
    clear hs0
    go_loop [0, 4] (fun r t => ∃ (q : Nat) (l : List UInt8), q ≤ 1000000000 ∧ l.length + q ≤ 1000000001 ∧ r = .int .i64 q ∧ t = .string (bs l) ∧ Hid (markL m = mk (q / 36) ++ l)) (fun r _ => (intOf r).toNat)
    case atStart => exact ⟨m, [mdig (m % 36)], by omega, by simp; omega, by go_num, rfl, Lib.hid rfl⟩
    case round =>
      obtain ⟨q, l, hq, hlen, rfl, rfl, hl⟩ := hrel
      by_cases h0 : 36 ≤ q
      · have hl' : Hid (markL m = mk (q / 36 / 36) ++ (mdig (q / 36 % 36) :: l)) := Lib.hid (by rw [hl.out, mk_pos (by omega)]; simp)
        have hsz : (bs [mdig (q / 36 % 36)]).size + (bs l).size ≤ 9223372036854775807 := by rw [bs_size, bs_size]; simp; omega
        have hs1 := slice_mod2 q
        go_wp2
        go_round
        case rel => exact ⟨q / 36, _, by omega, by simp; omega, by go_num, rfl, hl'⟩
        case measure => simp [intOf]; omega
      · have hr : Hid (markT m = l) := Lib.hid (by
          rw [markT_in hm, hl.out]
          have e : q / 36 = 0 := by omega
          rw [e]; rfl)
        go_wp2
        go_ret
        exact ⟨ret_str hr.out.symm, rfl⟩
end Go.Proofs.Ytolkgamfoopnjaa
