/-
  The verifier's own text: ItemVI ItemTI RItemI.
-/
import Derived.Test.YteknjaocamlcpaaRows
import Derived.Test.YteknjaocamlcpaaGo
import Derived.Test.YteknjaocamlcpaaGe
import Derived.Test.YteknjaocamlcpaaGc
import Derived.Test.YteknjaocamlcpaaGi
import Derived.Deep.RegionHeld3
import Derived.Test.YteknjaocamlcpaaGj
import Derived.WalkKit
import Derived.ProofKit
import Derived.Below
import Derived.Lib.Hide
import Derived.Outline
import Derived.BigQuiet
import Derived.Deep.QuietTactic
import Derived.Deep.Draws
import Derived.Laws.OwnMore
import Derived.Laws.Rows
import Derived.WalkSpells
import Derived.Deep.RegionWith
namespace Go.Proofs.Yteknjaocamlcpaa
open Go.RowKit
set_option linter.unusedVariables false
set_option maxRecDepth 100000 in
set_option maxHeartbeats 1000000 in
theorem itI_valid (k t b : ByteArray) (d : Int) (w : World) (hf : FitI ⟨k, t, b, d⟩) :
    Calls Try.prog 43 #[.agg #[.string k, .string t, .string b, .int .i64 d]] w (GotB (itB ⟨k, t, b, d⟩) w) := by
  obtain ⟨f1, f2, f3⟩ := hf
  have m1 := fit_max f1
  have m2 := fit_max f2
  have m3 := fit_max f3
  simp only at m1 m2 m3
  clear f1 f2 f3
  have hB := Lib.hid ((Below.refl w.heap.size w).alloc (Nat.le_refl _) (.cells #[.string k, .string t, .string b, .int .i64 d] 28))
  rcases hw : wordB k.data.toList with _ | _
  · have HR := Lib.hid (itB_key (i := ⟨k, t, b, d⟩) hw)
    have HW := Lib.hid hw
    clear hw
    go_enter Try.func43, Try.ntmps43
    go_wp2_with (go_at_call 45; refine (word_any k _ m1).mono ?_; rintro e w' ⟨rfl, rfl⟩; rw [HW.out])
    go_ret
    exact ⟨ret_bool HR.out.symm, hB.out⟩
  · have HW := Lib.hid hw
    by_cases hz : t.size = 0
    · have HR := Lib.hid (itB_empty (i := ⟨k, t, b, d⟩) hz)
      have z := str_nil hz
      clear hw hz
      go_enter Try.func43, Try.ntmps43
      go_wp2_with (first | (go_at_call 45; refine (word_any k _ m1).mono ?_; rintro e w' ⟨rfl, rfl⟩; rw [HW.out]))
      go_ret
      exact ⟨ret_bool HR.out.symm, hB.out⟩
    · have z := str_ne hz
      have z2 := str_full hz
      rcases ht : textB t.data.toList with _ | _
      · have HR := Lib.hid (itB_title (i := ⟨k, t, b, d⟩) ht)
        have HT := Lib.hid ht
        clear hw ht hz
        go_enter Try.func43, Try.ntmps43
        go_wp2_with (first | (go_at_call 45; refine (word_any k _ m1).mono ?_; rintro e w' ⟨rfl, rfl⟩; rw [HW.out]) | (go_at_call 59; ((with_reducible refine (text_any t _ m2).mono ?_); rintro e w' ⟨rfl, rfl⟩; rw [HT.out])))
        go_ret
        exact ⟨ret_bool HR.out.symm, hB.out⟩
      · have HT := Lib.hid ht
        rcases hb : textB b.data.toList with _ | _
        · have HR := Lib.hid (itB_body (i := ⟨k, t, b, d⟩) hb)
          have HD := Lib.hid hb
          clear hw ht hz hb
          go_enter Try.func43, Try.ntmps43
          go_wp2_with (first | (go_at_call 45; refine (word_any k _ m1).mono ?_; rintro e w' ⟨rfl, rfl⟩; rw [HW.out]) | (go_at_call 59; ((with_reducible refine (text_any t _ m2).mono ?_); rintro e w' ⟨rfl, rfl⟩; rw [HT.out])) | (go_at_call 59; ((with_reducible refine (text_any b _ m3).mono ?_); rintro e w' ⟨rfl, rfl⟩; rw [HD.out])))
          go_ret
          exact ⟨ret_bool HR.out.symm, hB.out⟩
        · have HD := Lib.hid hb
          rcases hd : dayB d with _ | _
          · have HR := Lib.hid (itB_day (i := ⟨k, t, b, d⟩) hd)
            have HE : Hid (bs (dateT d) = bs []) := Lib.hid (by rw [dayT_none hd])
            have y : (bs []).toList = [] := str_nil rfl
            clear hw ht hz hb hd
            go_enter Try.func43, Try.ntmps43
            go_wp2_with (first | (go_at_call 45; refine (word_any k _ m1).mono ?_; rintro e w' ⟨rfl, rfl⟩; rw [HW.out]) | (go_at_call 59; ((with_reducible refine (text_any t _ m2).mono ?_); rintro e w' ⟨rfl, rfl⟩; rw [HT.out])) | (go_at_call 59; ((with_reducible refine (text_any b _ m3).mono ?_); rintro e w' ⟨rfl, rfl⟩; rw [HD.out])) | (go_at_call 60; refine (dateI_any d _).mono ?_; rintro e w2 ⟨rfl, hb2⟩; rw [HE.out]))
            go_ret
            exact ⟨ret_bool HR.out.symm, below_trans' hB.out hb2⟩
          · have HR := Lib.hid (itB_mk (i := ⟨k, t, b, d⟩) hw ht hz hb hd)
            obtain ⟨x, hx⟩ : ∃ x, bs (dateT d) = x := ⟨_, rfl⟩
            have hxs : x.size ≠ 0 := by rw [← hx, bs_size, (dayT_ten hd).1]; omega
            have y := str_ne hxs
            have y2 := str_full hxs
            have HE := Lib.hid hx
            clear hw ht hz hb hd hx hxs
            go_enter Try.func43, Try.ntmps43
            go_wp2_with (first | (go_at_call 45; refine (word_any k _ m1).mono ?_; rintro e w' ⟨rfl, rfl⟩; rw [HW.out]) | (go_at_call 59; ((with_reducible refine (text_any t _ m2).mono ?_); rintro e w' ⟨rfl, rfl⟩; rw [HT.out])) | (go_at_call 59; ((with_reducible refine (text_any b _ m3).mono ?_); rintro e w' ⟨rfl, rfl⟩; rw [HD.out])) | (go_at_call 60; refine (dateI_any d _).mono ?_; rintro e w2 ⟨rfl, hb2⟩; rw [HE.out]))
            go_ret
            exact ⟨ret_bool HR.out.symm, below_trans' hB.out hb2⟩
set_option maxRecDepth 100000 in
set_option maxHeartbeats 4000000 in
theorem itI_text (k t b : ByteArray) (d : Int) (w : World) (hf : FitI ⟨k, t, b, d⟩) :
    Calls Try.prog 46 #[.agg #[.string k, .string t, .string b, .int .i64 d]] w (GotStr (itT ⟨k, t, b, d⟩) w) := by
  have hB := Lib.hid ((Below.refl w.heap.size w).alloc (Nat.le_refl _) (.cells #[.string k, .string t, .string b, .int .i64 d] 28))
  have hv := Lib.hid (itI_valid k t b d (w.alloc (.cells #[.string k, .string t, .string b, .int .i64 d] 28)) hf)
  rcases hi : itB ⟨k, t, b, d⟩ with _ | _
  · have HI := Lib.hid hi
    have HR := Lib.hid (itT_out hi)
    clear hi
    go_enter Try.func46, Try.ntmps46
    go_wp2_with (go_at_call 43; refine hv.out.mono ?_; rintro e w2 ⟨rfl, hb2⟩; rw [HI.out]; have hb2 := Lib.hid (below_trans' hB.out hb2))
    go_ret
    exact ⟨by rw [HR.out]; rfl, hb2.out⟩
  · have HI := Lib.hid hi
    have HR := Lib.hid (itT_in hi)
    have hfit : FitE (itE ⟨k, t, b, d⟩) := fitE_of' (itE_valid hi)
    clear hi
    go_enter Try.func46, Try.ntmps46
    go_wp2_with fail
    refine hv.out.mono ?_
    rintro e w2 ⟨rfl, hb2⟩
    rw [HI.out]
    have c : ∀ j u, (#[.string k, .string t, .string b, .int .i64 d] : Array Value)[j]? = some u → w2.drew.cell? ⟨w.heap.size, j, none⟩ = some u := fun j u hj => by
      have := hb2.cell (p := ⟨w.heap.size, j, none⟩) (by simp)
      show w2.cell? _ = _
      rw [this, World.cell?_alloc_new]; exact hj
    have hst := Lib.hid (show w2.drew.cell? ⟨w.heap.size, 0, none⟩ = some (.string k) ∧ w2.drew.cell? ⟨w.heap.size, 1, none⟩ = some (.string t) ∧ w2.drew.cell? ⟨w.heap.size, 2, none⟩ = some (.string b) ∧ w2.drew.cell? ⟨w.heap.size, 3, none⟩ = some (.int .i64 d) ∧ Hid (w.heap.size < w2.drew.heap.size ∧ Below w.heap.size w w2.drew) from
      ⟨c 0 _ rfl, c 1 _ rfl, c 2 _ rfl, c 3 _ rfl, Lib.hid ⟨by have := hb2.size; simp at this; show _ < w2.heap.size; omega, Below.drew (below_trans' hB.out hb2)⟩⟩)
    clear c hb2
    go_wp2
    go_region_held3 (fun w' => w'.cell? ⟨w.heap.size, 0, none⟩ = some (.string k) ∧ w'.cell? ⟨w.heap.size, 1, none⟩ = some (.string t) ∧ w'.cell? ⟨w.heap.size, 2, none⟩ = some (.string b) ∧ w'.cell? ⟨w.heap.size, 3, none⟩ = some (.int .i64 d) ∧ Hid (w.heap.size < w'.heap.size ∧ Below w.heap.size w w'))
      (first | exact hst.out | exact hS5.out | exact hS3.out | exact keep4 (v0 := .string k) (v1 := .string t) (v2 := .string b) (v3 := .int .i64 d) ((Below.refl _ _).alloc (Nat.le_refl _) _) (by assumption) (by assumption) (by assumption) (by assumption) (by assumption) | (go_split_ands; exact keep4 (v0 := .string k) (v1 := .string t) (v2 := .string b) (v3 := .int .i64 d) ((Below.refl _ _).alloc (Nat.le_refl _) _) (by assumption) (by assumption) (by assumption) (by assumption) (by assumption)))
      (first
        | (go_at_call 60; refine (dateI_any d _).mono ?_; rintro e w3 ⟨rfl, hb3⟩; go_split_ands; have hS3 := Lib.hid (keep4 (W := w) (v0 := .string k) (v1 := .string t) (v2 := .string b) (v3 := .int .i64 d) hb3 (by assumption) (by assumption) (by assumption) (by assumption) (by assumption)))
        | (go_at_call 66; refine (elI_text _ (itE ⟨k, t, b, d⟩) _ (rd_itE _ k t b d) hfit).mono ?_; rintro e w5 ⟨rfl, hb5⟩; go_split_ands; have hS5 := Lib.hid (keep4 (W := w) (v0 := .string k) (v1 := .string t) (v2 := .string b) (v3 := .int .i64 d) hb5 (by assumption) (by assumption) (by assumption) (by assumption) (by assumption))))
    go_split_ands
    rename Hid (w.heap.size < _ ∧ _) => hS
    go_wp2
    go_ret
    exact ⟨by rw [HR.out]; rfl, hS.out.2⟩
set_option maxRecDepth 100000 in
set_option maxHeartbeats 1000000 in
theorem times_any (v : Value) (L : EL) (n : ByteArray) (w : World) (h : RdG encE w v L) (h8 : L.length ≤ 8) :
    Calls Try.prog 93 #[v, .string n] w fun e w' => e = .returned (.int .i64 (cntE L n)) ∧ Below w.heap.size w w' := by
  by_cases hL : L = []
  · subst hL
    obtain ⟨A, c, rfl, hc⟩ := h.nil
    go_enter Try.func93, Try.ntmps93
    go_wp2
    refine wp_loop_rounds 1 ?_
    rw [rounds_succ]; go_wp2
    go_ret
    exact ⟨rfl, Below.refl _ _⟩
  · obtain ⟨b, o, c, rfl, h1, h2, hb, h4⟩ := h.some hL
    unfold maxLen at h2
    have hcells := Lib.hid (fun k (hk : k < L.length) => rdE_cells h4 hk)
    clear h4 hL
    go_enter Try.func93, Try.ntmps93
    go_wp2
    go_loopw [5, 10] (fun m i wr => ∃ k : Nat, k ≤ L.length ∧ i = .int .i64 k ∧ m = .int .i64 (cntE (L.take k) n) ∧ Hid (Below w.heap.size w wr)) (fun _ i _ => L.length - (intOf i).toNat)
    case atStart => exact ⟨0, Nat.zero_le _, rfl, by simp [cntE], Lib.hid (Below.refl _ _)⟩
    case round =>
      obtain ⟨k, hk, rfl, rfl, hbr⟩ := hrel
      by_cases hlt : k < L.length
      · obtain ⟨c0, c1⟩ := hcells.out k hlt
        rw [← hbr.out.cell (p := ⟨b, o + k * 2, none⟩) hb] at c0
        rw [← hbr.out.cell (p := ⟨b, o + k * 2 + 1, none⟩) hb] at c1
        have hct := Lib.hid (cnt_take (n := n) hlt)
        have hle : cntE (L.take k) n ≤ 8 := by
          have := List.countP_le_length (p := fun e : ByteArray × ByteArray => decide (e.1 = n)) (l := L.take k)
          have := List.length_take_le k L
          unfold cntE; omega
        obtain ⟨q, hq⟩ : ∃ q, cntE (L.take k) n = q := ⟨_, rfl⟩
        rw [hq] at hle hct ⊢
        obtain ⟨e, he⟩ : ∃ e, L[k] = e := ⟨_, rfl⟩
        rw [he] at c0 c1 hct
        obtain ⟨nm, tx⟩ := e
        simp only at c0 c1 hct
        have hsz := hbr.out.size
        have hbn : Hid (Below w.heap.size w (wr.alloc (.cells #[.string nm, .string tx] 72))) := Lib.hid (hbr.out.alloc hsz _)
        have hjj : (k : Int) < (L.length : Int) := by omega
        clear hq he
        by_cases hn : nm = n
        · have hN : Hid (cntE (L.take (k + 1)) n = q + 1) := Lib.hid (by rw [hct.out, if_pos hn])
          have e := str_same hn
          clear hn
          go_wp2
          go_roundw
          case rel => exact ⟨k + 1, by omega, by go_num, by rw [hN.out]; go_num, hbn⟩
          case measure => simp [intOf]; omega
        · have hN : Hid (cntE (L.take (k + 1)) n = q) := Lib.hid (by rw [hct.out, if_neg hn]; rfl)
          have e := str_other hn
          clear hn
          go_wp2
          go_roundw
          case rel => exact ⟨k + 1, by omega, by go_num, by rw [hN.out], hbn⟩
          case measure => simp [intOf]; omega
      · have hfull : L.take k = L := List.take_of_length_le (by omega)
        rw [hfull]
        go_wp2
        go_ret
        exact ⟨rfl, hbr.out⟩
theorem cntOk_key {L : EL} (h : cntE L kKey ≠ 1) : cntOk L = false := by simp [cntOk, h]
theorem cntOk_title {L : EL} (h : cntE L kTitle ≠ 1) : cntOk L = false := by simp [cntOk, h]
theorem cntOk_day {L : EL} (h : cntE L kDay ≠ 1) : cntOk L = false := by simp [cntOk, h]
theorem cntOk_body {L : EL} (h1 : cntE L kKey = 1) (h2 : cntE L kTitle = 1) (h3 : cntE L kDay = 1) : decide ((cntE L kBody : Int) ≤ 1) = cntOk L := by
  simp [cntOk, h1, h2, h3]; omega
set_option maxRecDepth 100000 in
set_option maxHeartbeats 1000000 in
theorem itemEls_any (v : Value) (L : EL) (w : World) (h : RdG encE w v L) (h8 : L.length ≤ 8) :
    Calls Try.prog 69 #[v] w (GotB (cntOk L) w) := by
  by_cases h1 : cntE L kKey = 1
  · have H1 := Lib.hid h1
    by_cases h2 : cntE L kTitle = 1
    · have H2 := Lib.hid h2
      by_cases h3 : cntE L kDay = 1
      · have H3 := Lib.hid h3
        have HR := Lib.hid (cntOk_body h1 h2 h3)
        clear h1 h2 h3
        go_enter Try.func69, Try.ntmps69
        go_wp2_with fail
        refine (times_any _ L kKey _ h h8).mono ?_
        rintro e w1 ⟨rfl, hb1⟩
        rw [H1.out]
        have hr1 := h.below hb1
        go_wp2_with fail
        refine (times_any _ L kTitle _ hr1 h8).mono ?_
        rintro e w2 ⟨rfl, hb2⟩
        rw [H2.out]
        have hr2 := hr1.below hb2
        have hb2 := below_trans' hb1 hb2
        go_wp2_with fail
        refine (times_any _ L kDay _ hr2 h8).mono ?_
        rintro e w3 ⟨rfl, hb3⟩
        rw [H3.out]
        have hr3 := hr2.below hb3
        have hb3 := below_trans' hb2 hb3
        go_wp2_with fail
        refine (times_any _ L kBody _ hr3 h8).mono ?_
        rintro e w4 ⟨rfl, hb4⟩
        have hb4 := below_trans' hb3 hb4
        go_wp2
        go_ret
        exact ⟨ret_bool HR.out, hb4⟩
      · have HR := Lib.hid (cntOk_day h3)
        obtain ⟨q, hq⟩ : ∃ q, cntE L kDay = q := ⟨_, rfl⟩
        rw [hq] at h3
        have p1 : ((q : Int) == 1) = false := by rw [beq_eq_false_iff_ne]; omega
        have p2 : ¬ ((q : Int) = 1) := by omega
        have HQ := Lib.hid hq
        clear h1 h2 h3 hq
        go_enter Try.func69, Try.ntmps69
        go_wp2_with fail
        refine (times_any _ L kKey _ h h8).mono ?_
        rintro e w1 ⟨rfl, hb1⟩
        rw [H1.out]
        have hr1 := h.below hb1
        go_wp2_with fail
        refine (times_any _ L kTitle _ hr1 h8).mono ?_
        rintro e w2 ⟨rfl, hb2⟩
        rw [H2.out]
        have hr2 := hr1.below hb2
        have hb2 := below_trans' hb1 hb2
        go_wp2_with fail
        refine (times_any _ L kDay _ hr2 h8).mono ?_
        rintro e w3 ⟨rfl, hb3⟩
        rw [HQ.out]
        have hb3 := below_trans' hb2 hb3
        go_wp2
        go_ret
        exact ⟨ret_bool HR.out.symm, hb3⟩
    · have HR := Lib.hid (cntOk_title h2)
      obtain ⟨q, hq⟩ : ∃ q, cntE L kTitle = q := ⟨_, rfl⟩
      rw [hq] at h2
      have p1 : ((q : Int) == 1) = false := by rw [beq_eq_false_iff_ne]; omega
      have p2 : ¬ ((q : Int) = 1) := by omega
      have HQ := Lib.hid hq
      clear h1 h2 hq
      go_enter Try.func69, Try.ntmps69
      go_wp2_with fail
      refine (times_any _ L kKey _ h h8).mono ?_
      rintro e w1 ⟨rfl, hb1⟩
      rw [H1.out]
      have hr1 := h.below hb1
      go_wp2_with fail
      refine (times_any _ L kTitle _ hr1 h8).mono ?_
      rintro e w2 ⟨rfl, hb2⟩
      rw [HQ.out]
      have hb2 := below_trans' hb1 hb2
      go_wp2
      go_ret
      exact ⟨ret_bool HR.out.symm, hb2⟩
  · have HR := Lib.hid (cntOk_key h1)
    obtain ⟨q, hq⟩ : ∃ q, cntE L kKey = q := ⟨_, rfl⟩
    rw [hq] at h1
    have p1 : ((q : Int) == 1) = false := by rw [beq_eq_false_iff_ne]; omega
    have p2 : ¬ ((q : Int) = 1) := by omega
    have HQ := Lib.hid hq
    clear h1 hq
    go_enter Try.func69, Try.ntmps69
    go_wp2_with fail
    refine (times_any _ L kKey _ h h8).mono ?_
    rintro e w1 ⟨rfl, hb1⟩
    rw [HQ.out]
    go_wp2
    go_ret
    exact ⟨ret_bool HR.out.symm, hb1⟩
set_option maxRecDepth 100000 in
set_option maxHeartbeats 2000000 in
theorem itemOf_any (v : Value) (L : EL) (w : World) (h : RdG encE w v L) (hB : elB L = true) :
    Calls Try.prog 70 #[v] w fun e w' => e = .returned (.agg #[.string (itOf L).key, .string (itOf L).title, .string (itOf L).body, .int .i64 (itOf L).day]) ∧ Below w.heap.size w w' := by
  have hfit := fitE_of' hB
  have sz := fun n => fst_size (n := n) hB
  have ex := fun n => elX_fst (n := n) hB
  have ex1 := Lib.hid (ex kKey)
  have ex2 := Lib.hid (ex kTitle)
  have ex3 := Lib.hid (ex kBody)
  have ex4 := Lib.hid (ex kDay)
  have m4 : (fstE L kDay).size ≤ maxLen := by have := sz kDay; unfold maxLen; omega
  clear sz ex hB
  have hit : Hid (itOf L = ⟨fstE L kKey, fstE L kTitle, fstE L kBody, readD (fstE L kDay).data.toList⟩) := Lib.hid rfl
  obtain ⟨w1, hw1⟩ : ∃ w1, w.alloc (.cells #[.string ⟨#[]⟩, .string ⟨#[]⟩, .string ⟨#[]⟩, .int .i64 0] 28) = w1 := ⟨_, rfl⟩
  have hw1s : w1.heap.size = w.heap.size + 1 := by rw [← hw1]; simp
  have hzero : ∀ j u, (#[.string ⟨#[]⟩, .string ⟨#[]⟩, .string ⟨#[]⟩, .int .i64 0] : Array Value)[j]? = some u → w1.cell? ⟨w.heap.size, j, none⟩ = some u := fun j u h => by rw [← hw1, World.cell?_alloc_new]; exact h
  have hfz : ∀ j, w1.frozen? ⟨w.heap.size, j, none⟩ = false := fun j => by
    have h := heap_alloc_new w (.cells #[.string ⟨#[]⟩, .string ⟨#[]⟩, .string ⟨#[]⟩, .int .i64 0] 28)
    rw [hw1] at h; simp [World.frozen?, h]
  have hb1 : Below w.heap.size w w1 := by rw [← hw1]; exact (Below.refl _ _).alloc (Nat.le_refl _) _
  have hr1 := h.below hb1
  have hzero := Lib.hid hzero
  have hfz := Lib.hid hfz
  have hb1 := Lib.hid hb1
  have hw1s := Lib.hid hw1s
  go_enter Try.func70, Try.ntmps70
  go_wp2_with fail
  have hw1 := Lib.hid hw1
  refine (elI_find _ L kKey _ hr1 hfit).mono ?_
  rintro e w2 ⟨rfl, hb2⟩
  rw [ex1.out]
  have hr2 := hr1.below hb2
  have hk2 := Lib.hid hb2
  clear hb2
  go_wp2_with fail
  refine (elI_find _ L kTitle _ hr2 hfit).mono ?_
  rintro e w3 ⟨rfl, hb3⟩
  rw [ex2.out]
  have hr3 := hr2.below hb3
  have hk3 := Lib.hid (below_trans' hk2.out hb3)
  clear hb3
  go_wp2_with fail
  refine (elI_find _ L kBody _ hr3 hfit).mono ?_
  rintro e w4 ⟨rfl, hb4⟩
  rw [ex3.out]
  have hr4 := hr3.below hb4
  have hk4 := Lib.hid (below_trans' hk3.out hb4)
  clear hb4
  go_wp2_with fail
  refine (elI_find _ L kDay _ hr4 hfit).mono ?_
  rintro e w5 ⟨rfl, hb5⟩
  rw [ex4.out]
  have hk5 := Lib.hid (below_trans' hk4.out hb5)
  clear hb5 hr1 hr2 hr3 hr4
  obtain ⟨xk, hxk⟩ : ∃ x, fstE L kKey = x := ⟨_, rfl⟩
  obtain ⟨xt, hxt⟩ : ∃ x, fstE L kTitle = x := ⟨_, rfl⟩
  obtain ⟨xb, hxb⟩ : ∃ x, fstE L kBody = x := ⟨_, rfl⟩
  obtain ⟨xd, hxd⟩ : ∃ x, fstE L kDay = x := ⟨_, rfl⟩
  rw [hxk, hxt, hxb, hxd] at hit
  rw [hxd] at m4
  rw [hxk, hxt, hxb, hxd]
  clear hxk hxt hxb hxd ex1 ex2 ex3 ex4
  obtain ⟨dn, hdn⟩ : ∃ dn, readD xd.data.toList = dn := ⟨_, rfl⟩
  rw [hdn] at hit
  have hdn := Lib.hid hdn
  have z : ∀ j u, (#[.string ⟨#[]⟩, .string ⟨#[]⟩, .string ⟨#[]⟩, .int .i64 0] : Array Value)[j]? = some u → w5.cell? ⟨w.heap.size, j, none⟩ = some u := fun j u h => by
    rw [hk5.out.cell (p := ⟨w.heap.size, j, none⟩) (by rw [hw1s.out]; exact Nat.lt_succ_self _)]; exact hzero.out j u h
  have z0 := z 0 _ rfl
  have z1 := z 1 _ rfl
  have z2 := z 2 _ rfl
  have z3 := z 3 _ rfl
  have zf : ∀ j, w5.frozen? ⟨w.heap.size, j, none⟩ = false := fun j => by
    rw [hk5.out.frozen (p := ⟨w.heap.size, j, none⟩) (by rw [hw1s.out]; exact Nat.lt_succ_self _)]; exact hfz.out j
  have HBw := Lib.hid (below_trans' hb1.out hk5.out)
  clear z
  go_wp2_with fail
  refine (rdI_any xd _ m4).mono ?_
  rintro e w' ⟨rfl, rfl⟩
  rw [hdn.out]
  go_wp2
  refine bodyPost_ret (v := .agg #[.string xk, .string xt, .string xb, .int .i64 dn]) (by simp [results, Try.results70, go_sem, z0, z1, z2, z3]) rfl ⟨by rw [hit.out], ?_⟩
  exact (((HBw.out.setCell (Nat.le_refl _) _).setCell (Nat.le_refl _) _).setCell (Nat.le_refl _) _).setCell (Nat.le_refl _) _
set_option maxRecDepth 100000 in
set_option maxHeartbeats 4000000 in
theorem rdI_item (s : ByteArray) (w : World) (hs : s.size ≤ 90000000) :
    Calls Try.prog 48 #[.string s] w (GotIR s.data.toList w) := by
  obtain ⟨w1, hw1⟩ : ∃ w1, w.alloc (.cells #[.string ⟨#[]⟩, .string ⟨#[]⟩, .string ⟨#[]⟩, .int .i64 0] 28) = w1 := ⟨_, rfl⟩
  have hw1s : w1.heap.size = w.heap.size + 1 := by rw [← hw1]; simp
  have hzero : ∀ j u, (#[.string ⟨#[]⟩, .string ⟨#[]⟩, .string ⟨#[]⟩, .int .i64 0] : Array Value)[j]? = some u → w1.cell? ⟨w.heap.size, j, none⟩ = some u := fun j u h => by rw [← hw1, World.cell?_alloc_new]; exact h
  have hfz : ∀ j, w1.frozen? ⟨w.heap.size, j, none⟩ = false := fun j => by
    have h := heap_alloc_new w (.cells #[.string ⟨#[]⟩, .string ⟨#[]⟩, .string ⟨#[]⟩, .int .i64 0] 28)
    rw [hw1] at h; simp [World.frozen?, h]
  have hb1 : Below w.heap.size w w1 := by rw [← hw1]; exact (Below.refl _ _).alloc (Nat.le_refl _) _
  have hzero := Lib.hid hzero
  have hfz := Lib.hid hfz
  have hb1 := Lib.hid hb1
  go_enter Try.func48, Try.ntmps48
  go_wp2_with fail
  have hw1 := Lib.hid hw1
  have hw1s := Lib.hid hw1s
  refine (rdI_elems s w1 hs).mono ?_
  rintro e w2 ⟨v, L, ok, rfl, hR, hown, hb2⟩
  have hrd2 := OwnG.rd hown
  have HR := Lib.hid hR
  have HB2 := Lib.hid hb2
  clear hR hown hb2
  rcases ok with _ | _
  · have HZ : Hid (itR L = (It.zero, false)) := Lib.hid (by
      rcases HR.out with ⟨q, _⟩ | ⟨_, q, _⟩
      · cases q
      · rw [q]; exact itR_nil)
    have z : ∀ j u, (#[.string ⟨#[]⟩, .string ⟨#[]⟩, .string ⟨#[]⟩, .int .i64 0] : Array Value)[j]? = some u → w2.cell? ⟨w.heap.size, j, none⟩ = some u := fun j u h => by
      rw [HB2.out.cell (p := ⟨w.heap.size, j, none⟩) (by rw [hw1s.out]; exact Nat.lt_succ_self _)]; exact hzero.out j u h
    have z0 := z 0 _ rfl
    have z1 := z 1 _ rfl
    have z2 := z 2 _ rfl
    have z3 := z 3 _ rfl
    have zf : ∀ j, w2.frozen? ⟨w.heap.size, j, none⟩ = false := fun j => by
      rw [HB2.out.frozen (p := ⟨w.heap.size, j, none⟩) (by rw [hw1s.out]; exact Nat.lt_succ_self _)]; exact hfz.out j
    have HBw := Lib.hid (below_trans' hb1.out HB2.out)
    clear z
    go_wp2
    refine bodyPost_ret (v := .tuple #[.agg #[.string ⟨#[]⟩, .string ⟨#[]⟩, .string ⟨#[]⟩, .int .i64 0], .bool false]) (by simp [results, Try.results48, go_sem, z0, z1, z2, z3]) rfl ⟨L, false, _, _, _, _, false, HR.out, HZ.out, rfl, ?_⟩
    exact (((HBw.out.setCell (Nat.le_refl _) _).setCell (Nat.le_refl _) _).setCell (Nat.le_refl _) _).setCell (Nat.le_refl _) _
  · have hBL : elB L = true := by
      rcases HR.out with ⟨_, h, _⟩ | ⟨q, _⟩
      · exact h
      · cases q
    have h8 := elB_len hBL
    have HE := Lib.hid hBL
    clear hBL
    go_wp2_with fail
    refine (itemEls_any _ L _ hrd2 h8).mono ?_
    rintro e w3 ⟨rfl, hb3⟩
    have hrd3 := hrd2.below hb3
    have HB3 := Lib.hid (below_trans' HB2.out hb3)
    clear hb3 hrd2
    rcases hc : cntOk L with _ | _
    · have HZ := Lib.hid (itR_cnt hc)
      clear hc
      have z : ∀ j u, (#[.string ⟨#[]⟩, .string ⟨#[]⟩, .string ⟨#[]⟩, .int .i64 0] : Array Value)[j]? = some u → w3.cell? ⟨w.heap.size, j, none⟩ = some u := fun j u h => by
        rw [HB3.out.cell (p := ⟨w.heap.size, j, none⟩) (by rw [hw1s.out]; exact Nat.lt_succ_self _)]; exact hzero.out j u h
      have z0 := z 0 _ rfl
      have z1 := z 1 _ rfl
      have z2 := z 2 _ rfl
      have z3 := z 3 _ rfl
      have zf : ∀ j, w3.frozen? ⟨w.heap.size, j, none⟩ = false := fun j => by
        rw [HB3.out.frozen (p := ⟨w.heap.size, j, none⟩) (by rw [hw1s.out]; exact Nat.lt_succ_self _)]; exact hfz.out j
      have HBw := Lib.hid (below_trans' hb1.out HB3.out)
      clear z
      go_wp2
      refine bodyPost_ret (v := .tuple #[.agg #[.string ⟨#[]⟩, .string ⟨#[]⟩, .string ⟨#[]⟩, .int .i64 0], .bool false]) (by simp [results, Try.results48, go_sem, z0, z1, z2, z3]) rfl ⟨L, true, _, _, _, _, false, HR.out, HZ.out, rfl, ?_⟩
      exact (((HBw.out.setCell (Nat.le_refl _) _).setCell (Nat.le_refl _) _).setCell (Nat.le_refl _) _).setCell (Nat.le_refl _) _
    · have HC := Lib.hid hc
      clear hc
      go_wp2_with fail
      refine (itemOf_any _ L _ hrd3 HE.out).mono ?_
      rintro e w5 ⟨rfl, hb5⟩
      have HB5 := Lib.hid (below_trans' HB3.out hb5)
      clear hb5
      have hfi : FitI (itOf L) := by
        have sz := fun n => fst_size (n := n) HE.out
        exact ⟨by have := sz kKey; show (fstE L kKey).size ≤ _; omega, by have := sz kTitle; show (fstE L kTitle).size ≤ _; omega, by have := sz kBody; show (fstE L kBody).size ≤ _; omega⟩
      obtain ⟨i, hi⟩ : ∃ i, itOf L = i := ⟨_, rfl⟩
      have HI := Lib.hid hi
      rw [hi] at hfi ⊢
      clear hi
      obtain ⟨xk, xt, xb, dn⟩ := i
      simp only
      have hsz5 := HB5.out.size
      have hb6 := Lib.hid (HB5.out.alloc hsz5 (.cells #[.string xk, .string xt, .string xb, .int .i64 dn] 28))
      have hlt6 : w5.heap.size < (w5.alloc (.cells #[.string xk, .string xt, .string xb, .int .i64 dn] 28)).heap.size := by simp
      have hlt6 := Lib.hid hlt6
      go_wp2_with fail
      refine (itI_valid xk xt xb dn _ hfi).mono ?_
      rintro e w7 ⟨rfl, hb7⟩
      have i0 : w7.cell? ⟨w5.heap.size, 0, none⟩ = some (.string xk) := by rw [hb7.cell (p := ⟨w5.heap.size, 0, none⟩) hlt6.out, World.cell?_alloc_new]; rfl
      have i1 : w7.cell? ⟨w5.heap.size, 1, none⟩ = some (.string xt) := by rw [hb7.cell (p := ⟨w5.heap.size, 1, none⟩) hlt6.out, World.cell?_alloc_new]; rfl
      have i2 : w7.cell? ⟨w5.heap.size, 2, none⟩ = some (.string xb) := by rw [hb7.cell (p := ⟨w5.heap.size, 2, none⟩) hlt6.out, World.cell?_alloc_new]; rfl
      have i3 : w7.cell? ⟨w5.heap.size, 3, none⟩ = some (.int .i64 dn) := by rw [hb7.cell (p := ⟨w5.heap.size, 3, none⟩) hlt6.out, World.cell?_alloc_new]; rfl
      have HB7 := Lib.hid (below_trans' hb6.out hb7)
      have z : ∀ j u, (#[.string ⟨#[]⟩, .string ⟨#[]⟩, .string ⟨#[]⟩, .int .i64 0] : Array Value)[j]? = some u → w7.cell? ⟨w.heap.size, j, none⟩ = some u := fun j u h => by
        rw [HB7.out.cell (p := ⟨w.heap.size, j, none⟩) (by rw [hw1s.out]; exact Nat.lt_succ_self _)]; exact hzero.out j u h
      have z0 := z 0 _ rfl
      have z1 := z 1 _ rfl
      have z2 := z 2 _ rfl
      have z3 := z 3 _ rfl
      have zf : ∀ j, w7.frozen? ⟨w.heap.size, j, none⟩ = false := fun j => by
        rw [HB7.out.frozen (p := ⟨w.heap.size, j, none⟩) (by rw [hw1s.out]; exact Nat.lt_succ_self _)]; exact hfz.out j
      have HBw := Lib.hid (below_trans' hb1.out HB7.out)
      clear z hb7
      rcases hiB : itB ⟨xk, xt, xb, dn⟩ with _ | _
      · have HZ : Hid (itR L = (It.zero, false)) := Lib.hid (itR_bad (by rw [HI.out]; exact hiB))
        clear hiB
        go_wp2
        refine bodyPost_ret (v := .tuple #[.agg #[.string ⟨#[]⟩, .string ⟨#[]⟩, .string ⟨#[]⟩, .int .i64 0], .bool false]) (by simp [results, Try.results48, go_sem, z0, z1, z2, z3]) rfl ⟨L, true, _, _, _, _, false, HR.out, HZ.out, rfl, ?_⟩
        exact (((HBw.out.setCell (Nat.le_refl _) _).setCell (Nat.le_refl _) _).setCell (Nat.le_refl _) _).setCell (Nat.le_refl _) _
      · have HZ : Hid (itR L = (⟨xk, xt, xb, dn⟩, true)) := Lib.hid (by rw [itR_in HC.out (by rw [HI.out]; exact hiB), HI.out])
        clear hiB
        go_wp2
        refine bodyPost_ret (v := .tuple #[.agg #[.string xk, .string xt, .string xb, .int .i64 dn], .bool true]) (by simp [results, Try.results48, go_sem, z0, z1, z2, z3]) rfl ⟨L, true, _, _, _, _, true, HR.out, HZ.out, rfl, ?_⟩
        exact (((HBw.out.setCell (Nat.le_refl _) _).setCell (Nat.le_refl _) _).setCell (Nat.le_refl _) _).setCell (Nat.le_refl _) _
end Go.Proofs.Yteknjaocamlcpaa
