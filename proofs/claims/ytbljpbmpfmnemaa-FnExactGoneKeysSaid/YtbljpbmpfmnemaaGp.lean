/-
  The verifier's own text: ItemVI RItemI.
-/
import Derived.Test.YtbljpbmpfmnemaaRows
import Derived.Test.YtbljpbmpfmnemaaGo
import Derived.Test.YtbljpbmpfmnemaaGe
import Derived.Test.YtbljpbmpfmnemaaGc
import Derived.Test.YtbljpbmpfmnemaaGj
import Derived.WalkKit
import Derived.ProofKit
import Derived.Below
import Derived.Lib.Hide
import Derived.Outline
import Derived.BigQuiet
import Derived.Deep.QuietTactic
import Derived.Deep.Draws
import Derived.Laws.OwnMore
import Derived.Laws.Rows
import Derived.WalkSpells
import Derived.Deep.RegionWith
namespace Go.Proofs.Ytbljpbmpfmnemaa
open Go.RowKit
set_option linter.unusedVariables false
set_option maxRecDepth 100000 in
set_option maxHeartbeats 1000000 in
theorem itI_valid (k t b : ByteArray) (d : Int) (w : World) (hf : FitI ⟨k, t, b, d⟩) :
    Calls Try.prog 46 #[.agg #[.string k, .string t, .string b, .int .i64 d]] w (GotB (itB ⟨k, t, b, d⟩) w) := by
  obtain ⟨f1, f2, f3⟩ := hf
  have m1 := fit_max f1
  have m2 := fit_max f2
  have m3 := fit_max f3
  simp only at m1 m2 m3
  clear f1 f2 f3
  have hB := Lib.hid ((Below.refl w.heap.size w).alloc (Nat.le_refl _) (.cells #[.string k, .string t, .string b, .int .i64 d] 30))
  rcases hw : wordB k.data.toList with _ | _
  · have HR := Lib.hid (itB_key (i := ⟨k, t, b, d⟩) hw)
    have HW := Lib.hid hw
    clear hw
    go_enter Try.func46, Try.ntmps46
    go_wp2_with (go_at_call 47; refine (word_any k _ m1).mono ?_; rintro e w' ⟨rfl, rfl⟩; rw [HW.out])
    go_ret
    exact ⟨ret_bool HR.out.symm, hB.out⟩
  · have HW := Lib.hid hw
    by_cases hz : t.size = 0
    · have HR := Lib.hid (itB_empty (i := ⟨k, t, b, d⟩) hz)
      have z := str_nil hz
      clear hw hz
      go_enter Try.func46, Try.ntmps46
      go_wp2_with (first | (go_at_call 47; refine (word_any k _ m1).mono ?_; rintro e w' ⟨rfl, rfl⟩; rw [HW.out]))
      go_ret
      exact ⟨ret_bool HR.out.symm, hB.out⟩
    · have z := str_ne hz
      have z2 := str_full hz
      rcases ht : textB t.data.toList with _ | _
      · have HR := Lib.hid (itB_title (i := ⟨k, t, b, d⟩) ht)
        have HT := Lib.hid ht
        clear hw ht hz
        go_enter Try.func46, Try.ntmps46
        go_wp2_with (first | (go_at_call 47; refine (word_any k _ m1).mono ?_; rintro e w' ⟨rfl, rfl⟩; rw [HW.out]) | (go_at_call 61; ((with_reducible refine (text_any t _ m2).mono ?_); rintro e w' ⟨rfl, rfl⟩; rw [HT.out])))
        go_ret
        exact ⟨ret_bool HR.out.symm, hB.out⟩
      · have HT := Lib.hid ht
        rcases hb : textB b.data.toList with _ | _
        · have HR := Lib.hid (itB_body (i := ⟨k, t, b, d⟩) hb)
          have HD := Lib.hid hb
          clear hw ht hz hb
          go_enter Try.func46, Try.ntmps46
          go_wp2_with (first | (go_at_call 47; refine (word_any k _ m1).mono ?_; rintro e w' ⟨rfl, rfl⟩; rw [HW.out]) | (go_at_call 61; ((with_reducible refine (text_any t _ m2).mono ?_); rintro e w' ⟨rfl, rfl⟩; rw [HT.out])) | (go_at_call 61; ((with_reducible refine (text_any b _ m3).mono ?_); rintro e w' ⟨rfl, rfl⟩; rw [HD.out])))
          go_ret
          exact ⟨ret_bool HR.out.symm, hB.out⟩
        · have HD := Lib.hid hb
          rcases hd : dayB d with _ | _
          · have HR := Lib.hid (itB_day (i := ⟨k, t, b, d⟩) hd)
            have HE : Hid (bs (dateT d) = bs []) := Lib.hid (by rw [dayT_none hd])
            have y : (bs []).toList = [] := str_nil rfl
            clear hw ht hz hb hd
            go_enter Try.func46, Try.ntmps46
            go_wp2_with (first | (go_at_call 47; refine (word_any k _ m1).mono ?_; rintro e w' ⟨rfl, rfl⟩; rw [HW.out]) | (go_at_call 61; ((with_reducible refine (text_any t _ m2).mono ?_); rintro e w' ⟨rfl, rfl⟩; rw [HT.out])) | (go_at_call 61; ((with_reducible refine (text_any b _ m3).mono ?_); rintro e w' ⟨rfl, rfl⟩; rw [HD.out])) | (go_at_call 62; refine (dateI_any d _).mono ?_; rintro e w2 ⟨rfl, hb2⟩; rw [HE.out]))
            go_ret
            exact ⟨ret_bool HR.out.symm, below_trans' hB.out hb2⟩
          · have HR := Lib.hid (itB_mk (i := ⟨k, t, b, d⟩) hw ht hz hb hd)
            obtain ⟨x, hx⟩ : ∃ x, bs (dateT d) = x := ⟨_, rfl⟩
            have hxs : x.size ≠ 0 := by rw [← hx, bs_size, (dayT_ten hd).1]; omega
            have y := str_ne hxs
            have y2 := str_full hxs
            have HE := Lib.hid hx
            clear hw ht hz hb hd hx hxs
            go_enter Try.func46, Try.ntmps46
            go_wp2_with (first | (go_at_call 47; refine (word_any k _ m1).mono ?_; rintro e w' ⟨rfl, rfl⟩; rw [HW.out]) | (go_at_call 61; ((with_reducible refine (text_any t _ m2).mono ?_); rintro e w' ⟨rfl, rfl⟩; rw [HT.out])) | (go_at_call 61; ((with_reducible refine (text_any b _ m3).mono ?_); rintro e w' ⟨rfl, rfl⟩; rw [HD.out])) | (go_at_call 62; refine (dateI_any d _).mono ?_; rintro e w2 ⟨rfl, hb2⟩; rw [HE.out]))
            go_ret
            exact ⟨ret_bool HR.out.symm, below_trans' hB.out hb2⟩
theorem cntOk_key {L : EL} (h : cntE L kKey ≠ 1) : cntOk L = false := by simp [cntOk, h]
theorem cntOk_title {L : EL} (h : cntE L kTitle ≠ 1) : cntOk L = false := by simp [cntOk, h]
theorem cntOk_day {L : EL} (h : cntE L kDay ≠ 1) : cntOk L = false := by simp [cntOk, h]
theorem cntOk_body {L : EL} (h1 : cntE L kKey = 1) (h2 : cntE L kTitle = 1) (h3 : cntE L kDay = 1) : decide ((cntE L kBody : Int) ≤ 1) = cntOk L := by
  simp [cntOk, h1, h2, h3]; omega
end Go.Proofs.Ytbljpbmpfmnemaa
