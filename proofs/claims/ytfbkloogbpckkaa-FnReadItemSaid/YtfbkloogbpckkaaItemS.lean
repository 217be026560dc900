/-
  The verifier's own text: ItemS.
-/
import Derived.Test.YtfbkloogbpckkaaRows
import Derived.Test.YtfbkloogbpckkaaItemMath
import Derived.Test.YtfbkloogbpckkaaGi
import Derived.Test.YtfbkloogbpckkaaGc
import Derived.Test.YtfbkloogbpckkaaGf
import Derived.WalkKit
import Derived.ProofKit
import Derived.Below
import Derived.Lib.Hide
import Derived.Outline
import Derived.BigQuiet
import Derived.Deep.QuietTactic
import Derived.Deep.Draws
import Derived.Laws.OwnMore
import Derived.Laws.Rows
import Derived.WalkSpells
import Derived.Deep.RegionWith
namespace Go.Proofs.Ytfbkloogbpckkaa
open Go.RowKit
set_option linter.unusedVariables false
/-- an item as a value -/
def aggI (i : It) : Value := .agg #[.string i.key, .string i.title, .string i.body, .int .i64 i.day]
def FitI (i : It) : Prop := i.key.size ≤ 100000000 ∧ i.title.size ≤ 100000000 ∧ i.body.size ≤ 100000000
theorem fit_max {n : Nat} (h : n ≤ 100000000) : n ≤ maxLen := by unfold maxLen; omega
theorem fitI_of {i : It} (h : itB i = true) : FitI i := by
  obtain ⟨a, b, _, d, _⟩ := itB_of h
  have h1 := (word_len a).2
  have h2 := textB_len b
  have h3 := textB_len d
  rw [blen] at h1 h2 h3
  exact ⟨by omega, by omega, by omega⟩
set_option maxRecDepth 100000 in
set_option maxHeartbeats 1000000 in
theorem itS_valid (k t b : ByteArray) (d : Int) (w : World) (hf : FitI ⟨k, t, b, d⟩) :
    Calls Try.prog 11 #[.agg #[.string k, .string t, .string b, .int .i64 d]] w (GotB (itB ⟨k, t, b, d⟩) w) := by
  obtain ⟨f1, f2, f3⟩ := hf
  have m1 := fit_max f1
  have m2 := fit_max f2
  have m3 := fit_max f3
  simp only at m1 m2 m3
  clear f1 f2 f3
  have hB := Lib.hid ((Below.refl w.heap.size w).alloc (Nat.le_refl _) (.cells #[.string k, .string t, .string b, .int .i64 d] 24))
  rcases hw : wordB k.data.toList with _ | _
  · have HR := Lib.hid (itB_key (i := ⟨k, t, b, d⟩) hw)
    have HW := Lib.hid hw
    clear hw
    go_enter Try.func11, Try.ntmps11
    go_wp2_with (go_at_call 27; refine (sword_any k _ m1).mono ?_; rintro e w' ⟨rfl, rfl⟩; rw [HW.out])
    go_ret
    exact ⟨ret_bool HR.out.symm, hB.out⟩
  · have HW := Lib.hid hw
    rcases ht : textB t.data.toList with _ | _
    · have HR := Lib.hid (itB_title (i := ⟨k, t, b, d⟩) ht)
      have HT := Lib.hid ht
      clear hw ht
      go_enter Try.func11, Try.ntmps11
      go_wp2_with (first | (go_at_call 27; refine (sword_any k _ m1).mono ?_; rintro e w' ⟨rfl, rfl⟩; rw [HW.out]) | (go_at_call 28; ((with_reducible refine (stext_any t _ m2).mono ?_); rintro e w' ⟨rfl, rfl⟩; rw [HT.out])))
      go_ret
      exact ⟨ret_bool HR.out.symm, hB.out⟩
    · have HT := Lib.hid ht
      by_cases hz : t.size = 0
      · have HR := Lib.hid (itB_empty (i := ⟨k, t, b, d⟩) hz)
        have z := str_nil hz
        clear hw ht hz
        go_enter Try.func11, Try.ntmps11
        go_wp2_with (first | (go_at_call 27; refine (sword_any k _ m1).mono ?_; rintro e w' ⟨rfl, rfl⟩; rw [HW.out]) | (go_at_call 28; ((with_reducible refine (stext_any t _ m2).mono ?_); rintro e w' ⟨rfl, rfl⟩; rw [HT.out])))
        go_ret
        exact ⟨ret_bool HR.out.symm, hB.out⟩
      · have z := str_ne hz
        have z2 := str_full hz
        rcases hb : textB b.data.toList with _ | _
        · have HR := Lib.hid (itB_body (i := ⟨k, t, b, d⟩) hb)
          have HD := Lib.hid hb
          clear hw ht hz hb
          go_enter Try.func11, Try.ntmps11
          go_wp2_with (first | (go_at_call 27; refine (sword_any k _ m1).mono ?_; rintro e w' ⟨rfl, rfl⟩; rw [HW.out]) | (go_at_call 28; ((with_reducible refine (stext_any t _ m2).mono ?_); rintro e w' ⟨rfl, rfl⟩; rw [HT.out])) | (go_at_call 28; ((with_reducible refine (stext_any b _ m3).mono ?_); rintro e w' ⟨rfl, rfl⟩; rw [HD.out])))
          go_ret
          exact ⟨ret_bool HR.out.symm, hB.out⟩
        · have HD := Lib.hid hb
          rcases hd : dayB d with _ | _
          · have HR := Lib.hid (itB_day (i := ⟨k, t, b, d⟩) hd)
            have HE : Hid (bs (dateT d) = bs []) := Lib.hid (by rw [dayT_none hd])
            have y : (bs []).toList = [] := str_nil rfl
            clear hw ht hz hb hd
            go_enter Try.func11, Try.ntmps11
            go_wp2_with (first | (go_at_call 27; refine (sword_any k _ m1).mono ?_; rintro e w' ⟨rfl, rfl⟩; rw [HW.out]) | (go_at_call 28; ((with_reducible refine (stext_any t _ m2).mono ?_); rintro e w' ⟨rfl, rfl⟩; rw [HT.out])) | (go_at_call 28; ((with_reducible refine (stext_any b _ m3).mono ?_); rintro e w' ⟨rfl, rfl⟩; rw [HD.out])) | (go_at_call 29; refine (dateS_any d _).mono ?_; rintro e w2 ⟨rfl, hb2⟩; rw [HE.out]))
            go_ret
            exact ⟨ret_bool HR.out.symm, below_trans' hB.out hb2⟩
          · have HR := Lib.hid (itB_mk (i := ⟨k, t, b, d⟩) hw ht hz hb hd)
            obtain ⟨x, hx⟩ : ∃ x, bs (dateT d) = x := ⟨_, rfl⟩
            have hxs : x.size ≠ 0 := by rw [← hx, bs_size, (dayT_ten hd).1]; omega
            have y := str_ne hxs
            have y2 := str_full hxs
            have HE := Lib.hid hx
            clear hw ht hz hb hd hx hxs
            go_enter Try.func11, Try.ntmps11
            go_wp2_with (first | (go_at_call 27; refine (sword_any k _ m1).mono ?_; rintro e w' ⟨rfl, rfl⟩; rw [HW.out]) | (go_at_call 28; ((with_reducible refine (stext_any t _ m2).mono ?_); rintro e w' ⟨rfl, rfl⟩; rw [HT.out])) | (go_at_call 28; ((with_reducible refine (stext_any b _ m3).mono ?_); rintro e w' ⟨rfl, rfl⟩; rw [HD.out])) | (go_at_call 29; refine (dateS_any d _).mono ?_; rintro e w2 ⟨rfl, hb2⟩; rw [HE.out]))
            go_ret
            exact ⟨ret_bool HR.out.symm, below_trans' hB.out hb2⟩
end Go.Proofs.Ytfbkloogbpckkaa
