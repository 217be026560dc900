/-
  The verifier's own text: ActI.
-/
import Derived.Test.YtacapigdfabiiaaRows
import Derived.Test.YtacapigdfabiiaaActI2
import Derived.Test.YtacapigdfabiiaaMarkI
import Derived.WalkKit
import Derived.ProofKit
import Derived.Below
import Derived.Lib.Hide
import Derived.Outline
import Derived.BigQuiet
import Derived.Deep.QuietTactic
import Derived.Deep.Draws
import Derived.Laws.OwnMore
import Derived.Laws.Rows
import Derived.WalkSpells
import Derived.Deep.RegionWith
namespace Go.Proofs.Ytacapigdfabiiaa
open Go.RowKit
set_option linter.unusedVariables false
theorem mdig_small : ∀ d : Nat, 2 ≤ d → d ≤ 9 → bs [mdig d] = ⟨#[UInt8.ofNat (48 + d)]⟩ := by
  intro d h h'
  obtain rfl | rfl | rfl | rfl | rfl | rfl | rfl | rfl : d = 2 ∨ d = 3 ∨ d = 4 ∨ d = 5 ∨ d = 6 ∨ d = 7 ∨ d = 8 ∨ d = 9 := by omega
  all_goals rfl
theorem cutA_8 {w : ByteArray} (h : w.size = 8) : cutA w = w.extract 0 7 := by unfold cutA; rw [h]; rfl
theorem cutA_7 {w : ByteArray} (h : w.size ≤ 7) : cutA w = w := by
  unfold cutA; rw [Nat.min_eq_left h]; exact ByteArray.extract_zero_size
set_option maxRecDepth 100000 in
set_option maxHeartbeats 4000000 in
theorem acI_for (v : Value) (L : List Ac) (word : ByteArray) (w : World) (h : RdG encAc w v L) (hf : FitAcs L) (hw : word.size ≤ 100000000) :
    Calls Try.prog 32 #[v, .string word] w (GotBA (nfA L word) w) := by
  have hwm := fit_max hw
  have hrd := Lib.hid h
  clear h
  rcases hW : wordB word.data.toList with _ | _
  · have HR := Lib.hid (nfA_out (L := L) (.inr hW))
    have HW := Lib.hid hW
    clear hW
    go_enter Try.func32, Try.ntmps32
    go_wp2_with (go_at_call 34; refine (word_any word _ hwm).mono ?_; rintro e w' ⟨rfl, rfl⟩; rw [HW.out])
    go_ret
    exact ⟨by rw [HR.out]; rfl, Below.refl _ _⟩
  · have hw8 := (word_len hW).2
    rw [blen] at hw8
    have HW := Lib.hid hW
    clear hW
    go_enter Try.func32, Try.ntmps32
    go_wp2_with (first | (go_at_call 34; refine (word_any word _ hwm).mono ?_; rintro e w' ⟨rfl, rfl⟩; rw [HW.out]) | fail)
    refine (acI_valid v L _ hrd.out hf).mono ?_
    rintro e w2 ⟨rfl, hb2⟩
    have hB2 := Lib.hid hb2
    have hrd2 := Lib.hid (hrd.out.below hb2)
    clear hb2
    rcases hF : acsB L with _ | _
    · have HR := Lib.hid (nfA_out (w := word) (.inl hF))
      clear hF
      go_wp2
      go_ret
      exact ⟨by rw [HR.out]; rfl, hB2.out⟩
    · have HF := Lib.hid hF
      clear hF
      go_wp2_with fail
      refine (acI_named _ L word _ hrd2.out hf).mono ?_
      rintro e w3 ⟨rfl, hb3⟩
      have hB3 := Lib.hid (below_trans' hB2.out hb3)
      have hrd3 := Lib.hid (hrd2.out.below hb3)
      clear hb3
      by_cases hn : acN L word < 0
      · have HR := Lib.hid (nfA_word HF.out HW.out hn)
        go_wp2
        go_ret
        exact ⟨by rw [HR.out]; rfl, hB3.out⟩
      · have HR := Lib.hid (nfA_dig HF.out HW.out hn)
        have hz : ∀ d, (bs [mdig d]).size = 1 := fun d => by rw [bs_size]; rfl
        by_cases h7 : word.size = 8
        · have q : ((word.size : Int) == 8) = true := by rw [h7]; rfl
          have hcut : Hid (∀ d : Nat, 2 ≤ d → d ≤ 9 → word.extract 0 7 ++ bs [mdig d] = digA word (48 + d)) := Lib.hid (fun d a b => by unfold digA; rw [cutA_8 h7, mdig_small d a b])
          have hsum : Hid (∀ d, (word.extract 0 7).size + (bs [mdig d]).size ≤ 9223372036854775807) := Lib.hid (fun d => by rw [hz, ByteArray.size_extract]; omega)
          have e1 : (7 : Int) ≤ (word.size : Int) := by omega
          have e2 : 7 ≤ word.size := by omega
          clear hz
          go_wp2
          go_loopw [6] (fun i wr => ∃ d : Nat, 2 ≤ d ∧ d ≤ 10 ∧ i = .int .i64 d ∧ Hid (nfA L word = nfD L word (10 - d) (48 + d)) ∧ Hid (Below w.heap.size w wr)) (fun i _ => 10 - (intOf i).toNat)
          case atStart => exact ⟨2, by omega, by omega, rfl, HR, hB3⟩
          case round =>
            obtain ⟨d, d0, d1, rfl, hat, hbr⟩ := hrel
            by_cases hlt : d ≤ 9
            · have hdd : (d : Int) ≤ 9 := by omega
              have hc := Lib.hid (hcut.out d d0 hlt)
              have hs := hsum.out d
              have hsz : (digA word (48 + d)).size ≤ 100000000 := by unfold digA; rw [ByteArray.size_append]; have := cutA_size word hw8; have : (⟨#[UInt8.ofNat (48 + d)]⟩ : ByteArray).size = 1 := rfl; omega
              have HX : Hid (nfA L word = nfD L word (9 - d + 1) (48 + d)) := Lib.hid (by rw [hat.out]; congr 1; omega)
              go_wp2_with (first | (go_at_call 45; refine (digit_any d _ (by omega)).mono ?_; rintro e w' ⟨rfl, rfl⟩) | fail)
              rw [hc.out]
              refine (acI_named _ L (digA word (48 + d)) _ (hrd.out.below hbr.out) hf).mono ?_
              rintro e w5 ⟨rfl, hb5⟩
              have hB5 := Lib.hid (below_trans' hbr.out hb5)
              clear hb5
              by_cases hn2 : acN L (digA word (48 + d)) < 0
              · have HE := Lib.hid (HX.out.trans (nfD_yes hn2))
                go_wp2
                go_ret
                exact ⟨by rw [HE.out]; rfl, hB5.out⟩
              · have HE : Hid (nfA L word = nfD L word (10 - (d + 1)) (48 + (d + 1))) := Lib.hid (by rw [HX.out, nfD_no hn2, show 10 - (d + 1) = 9 - d from by omega, show 48 + d + 1 = 48 + (d + 1) from by omega])
                go_wp2
                go_roundw
                case rel => exact ⟨d + 1, by omega, by omega, by go_num, HE, hB5⟩
                case measure => simp [intOf]; omega
            · obtain rfl : d = 10 := by omega
              have HE : Hid (nfA L word = ⟨#[]⟩) := Lib.hid hat.out
              go_wp2
              go_ret
              exact ⟨by rw [HE.out]; rfl, hbr.out⟩
        · have q : ((word.size : Int) == 8) = false := by rw [beq_eq_false_iff_ne]; omega
          have q' : ¬ ((word.size : Int) = 8) := by omega
          have hcut : Hid (∀ d : Nat, 2 ≤ d → d ≤ 9 → word ++ bs [mdig d] = digA word (48 + d)) := Lib.hid (fun d a b => by unfold digA; rw [cutA_7 (by omega), mdig_small d a b])
          have hsum : Hid (∀ d, word.size + (bs [mdig d]).size ≤ 9223372036854775807) := Lib.hid (fun d => by rw [hz]; omega)
          clear hz
          go_wp2
          go_loopw [6] (fun i wr => ∃ d : Nat, 2 ≤ d ∧ d ≤ 10 ∧ i = .int .i64 d ∧ Hid (nfA L word = nfD L word (10 - d) (48 + d)) ∧ Hid (Below w.heap.size w wr)) (fun i _ => 10 - (intOf i).toNat)
          case atStart => exact ⟨2, by omega, by omega, rfl, HR, hB3⟩
          case round =>
            obtain ⟨d, d0, d1, rfl, hat, hbr⟩ := hrel
            by_cases hlt : d ≤ 9
            · have hdd : (d : Int) ≤ 9 := by omega
              have hc := Lib.hid (hcut.out d d0 hlt)
              have hs := hsum.out d
              have hsz : (digA word (48 + d)).size ≤ 100000000 := by unfold digA; rw [ByteArray.size_append]; have := cutA_size word hw8; have : (⟨#[UInt8.ofNat (48 + d)]⟩ : ByteArray).size = 1 := rfl; omega
              have HX : Hid (nfA L word = nfD L word (9 - d + 1) (48 + d)) := Lib.hid (by rw [hat.out]; congr 1; omega)
              go_wp2_with (first | (go_at_call 45; refine (digit_any d _ (by omega)).mono ?_; rintro e w' ⟨rfl, rfl⟩) | fail)
              rw [hc.out]
              refine (acI_named _ L (digA word (48 + d)) _ (hrd.out.below hbr.out) hf).mono ?_
              rintro e w5 ⟨rfl, hb5⟩
              have hB5 := Lib.hid (below_trans' hbr.out hb5)
              clear hb5
              by_cases hn2 : acN L (digA word (48 + d)) < 0
              · have HE := Lib.hid (HX.out.trans (nfD_yes hn2))
                go_wp2
                go_ret
                exact ⟨by rw [HE.out]; rfl, hB5.out⟩
              · have HE : Hid (nfA L word = nfD L word (10 - (d + 1)) (48 + (d + 1))) := Lib.hid (by rw [HX.out, nfD_no hn2, show 10 - (d + 1) = 9 - d from by omega, show 48 + d + 1 = 48 + (d + 1) from by omega])
                go_wp2
                go_roundw
                case rel => exact ⟨d + 1, by omega, by omega, by go_num, HE, hB5⟩
                case measure => simp [intOf]; omega
            · obtain rfl : d = 10 := by omega
              have HE : Hid (nfA L word = ⟨#[]⟩) := Lib.hid hat.out
              go_wp2
              go_ret
              exact ⟨by rw [HE.out]; rfl, hbr.out⟩
end Go.Proofs.Ytacapigdfabiiaa
