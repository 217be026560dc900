/-
  The verifier's own text: ItemS ItemTS RItemS LawI ZeroI.
-/
import Derived.Test.YteknjaocamlcpaaRows
import Derived.Test.YteknjaocamlcpaaGn
import Derived.Test.YteknjaocamlcpaaGi
import Derived.Test.YteknjaocamlcpaaGc
import Derived.Test.YteknjaocamlcpaaGf
import Derived.Test.YteknjaocamlcpaaGb
import Derived.Deep.RegionHeld3
import Derived.Test.YteknjaocamlcpaaGk
import Derived.Test.YteknjaocamlcpaaGg
import Derived.WalkKit
import Derived.ProofKit
import Derived.Below
import Derived.Lib.Hide
import Derived.Outline
import Derived.BigQuiet
import Derived.Deep.QuietTactic
import Derived.Deep.Draws
import Derived.Laws.OwnMore
import Derived.Laws.Rows
import Derived.WalkSpells
import Derived.Deep.RegionWith
namespace Go.Proofs.Yteknjaocamlcpaa
open Go.RowKit
set_option linter.unusedVariables false
/-- an item as a value -/
def aggI (i : It) : Value := .agg #[.string i.key, .string i.title, .string i.body, .int .i64 i.day]
def FitI (i : It) : Prop := i.key.size ≤ 100000000 ∧ i.title.size ≤ 100000000 ∧ i.body.size ≤ 100000000
theorem fit_max {n : Nat} (h : n ≤ 100000000) : n ≤ maxLen := by unfold maxLen; omega
theorem fitI_of {i : It} (h : itB i = true) : FitI i := by
  obtain ⟨a, b, _, d, _⟩ := itB_of h
  have h1 := (word_len a).2
  have h2 := textB_len b
  have h3 := textB_len d
  rw [blen] at h1 h2 h3
  exact ⟨by omega, by omega, by omega⟩
set_option maxRecDepth 100000 in
set_option maxHeartbeats 1000000 in
theorem itS_valid (k t b : ByteArray) (d : Int) (w : World) (hf : FitI ⟨k, t, b, d⟩) :
    Calls Try.prog 44 #[.agg #[.string k, .string t, .string b, .int .i64 d]] w (GotB (itB ⟨k, t, b, d⟩) w) := by
  obtain ⟨f1, f2, f3⟩ := hf
  have m1 := fit_max f1
  have m2 := fit_max f2
  have m3 := fit_max f3
  simp only at m1 m2 m3
  clear f1 f2 f3
  have hB := Lib.hid ((Below.refl w.heap.size w).alloc (Nat.le_refl _) (.cells #[.string k, .string t, .string b, .int .i64 d] 28))
  rcases hw : wordB k.data.toList with _ | _
  · have HR := Lib.hid (itB_key (i := ⟨k, t, b, d⟩) hw)
    have HW := Lib.hid hw
    clear hw
    go_enter Try.func44, Try.ntmps44
    go_wp2_with (go_at_call 61; refine (sword_any k _ m1).mono ?_; rintro e w' ⟨rfl, rfl⟩; rw [HW.out])
    go_ret
    exact ⟨ret_bool HR.out.symm, hB.out⟩
  · have HW := Lib.hid hw
    rcases ht : textB t.data.toList with _ | _
    · have HR := Lib.hid (itB_title (i := ⟨k, t, b, d⟩) ht)
      have HT := Lib.hid ht
      clear hw ht
      go_enter Try.func44, Try.ntmps44
      go_wp2_with (first | (go_at_call 61; refine (sword_any k _ m1).mono ?_; rintro e w' ⟨rfl, rfl⟩; rw [HW.out]) | (go_at_call 62; ((with_reducible refine (stext_any t _ m2).mono ?_); rintro e w' ⟨rfl, rfl⟩; rw [HT.out])))
      go_ret
      exact ⟨ret_bool HR.out.symm, hB.out⟩
    · have HT := Lib.hid ht
      by_cases hz : t.size = 0
      · have HR := Lib.hid (itB_empty (i := ⟨k, t, b, d⟩) hz)
        have z := str_nil hz
        clear hw ht hz
        go_enter Try.func44, Try.ntmps44
        go_wp2_with (first | (go_at_call 61; refine (sword_any k _ m1).mono ?_; rintro e w' ⟨rfl, rfl⟩; rw [HW.out]) | (go_at_call 62; ((with_reducible refine (stext_any t _ m2).mono ?_); rintro e w' ⟨rfl, rfl⟩; rw [HT.out])))
        go_ret
        exact ⟨ret_bool HR.out.symm, hB.out⟩
      · have z := str_ne hz
        have z2 := str_full hz
        rcases hb : textB b.data.toList with _ | _
        · have HR := Lib.hid (itB_body (i := ⟨k, t, b, d⟩) hb)
          have HD := Lib.hid hb
          clear hw ht hz hb
          go_enter Try.func44, Try.ntmps44
          go_wp2_with (first | (go_at_call 61; refine (sword_any k _ m1).mono ?_; rintro e w' ⟨rfl, rfl⟩; rw [HW.out]) | (go_at_call 62; ((with_reducible refine (stext_any t _ m2).mono ?_); rintro e w' ⟨rfl, rfl⟩; rw [HT.out])) | (go_at_call 62; ((with_reducible refine (stext_any b _ m3).mono ?_); rintro e w' ⟨rfl, rfl⟩; rw [HD.out])))
          go_ret
          exact ⟨ret_bool HR.out.symm, hB.out⟩
        · have HD := Lib.hid hb
          rcases hd : dayB d with _ | _
          · have HR := Lib.hid (itB_day (i := ⟨k, t, b, d⟩) hd)
            have HE : Hid (bs (dateT d) = bs []) := Lib.hid (by rw [dayT_none hd])
            have y : (bs []).toList = [] := str_nil rfl
            clear hw ht hz hb hd
            go_enter Try.func44, Try.ntmps44
            go_wp2_with (first | (go_at_call 61; refine (sword_any k _ m1).mono ?_; rintro e w' ⟨rfl, rfl⟩; rw [HW.out]) | (go_at_call 62; ((with_reducible refine (stext_any t _ m2).mono ?_); rintro e w' ⟨rfl, rfl⟩; rw [HT.out])) | (go_at_call 62; ((with_reducible refine (stext_any b _ m3).mono ?_); rintro e w' ⟨rfl, rfl⟩; rw [HD.out])) | (go_at_call 63; refine (dateS_any d _).mono ?_; rintro e w2 ⟨rfl, hb2⟩; rw [HE.out]))
            go_ret
            exact ⟨ret_bool HR.out.symm, below_trans' hB.out hb2⟩
          · have HR := Lib.hid (itB_mk (i := ⟨k, t, b, d⟩) hw ht hz hb hd)
            obtain ⟨x, hx⟩ : ∃ x, bs (dateT d) = x := ⟨_, rfl⟩
            have hxs : x.size ≠ 0 := by rw [← hx, bs_size, (dayT_ten hd).1]; omega
            have y := str_ne hxs
            have y2 := str_full hxs
            have HE := Lib.hid hx
            clear hw ht hz hb hd hx hxs
            go_enter Try.func44, Try.ntmps44
            go_wp2_with (first | (go_at_call 61; refine (sword_any k _ m1).mono ?_; rintro e w' ⟨rfl, rfl⟩; rw [HW.out]) | (go_at_call 62; ((with_reducible refine (stext_any t _ m2).mono ?_); rintro e w' ⟨rfl, rfl⟩; rw [HT.out])) | (go_at_call 62; ((with_reducible refine (stext_any b _ m3).mono ?_); rintro e w' ⟨rfl, rfl⟩; rw [HD.out])) | (go_at_call 63; refine (dateS_any d _).mono ?_; rintro e w2 ⟨rfl, hb2⟩; rw [HE.out]))
            go_ret
            exact ⟨ret_bool HR.out.symm, below_trans' hB.out hb2⟩
theorem keep4 {W w2 w3 : World} {g : Nat} {v0 v1 v2 v3 : Value} (hb : Below w2.heap.size w2 w3) (h0 : w2.cell? ⟨g, 0, none⟩ = some v0) (h1 : w2.cell? ⟨g, 1, none⟩ = some v1) (h2 : w2.cell? ⟨g, 2, none⟩ = some v2) (h3 : w2.cell? ⟨g, 3, none⟩ = some v3) (h : Hid (g < w2.heap.size ∧ Below W.heap.size W w2)) :
    w3.cell? ⟨g, 0, none⟩ = some v0 ∧ w3.cell? ⟨g, 1, none⟩ = some v1 ∧ w3.cell? ⟨g, 2, none⟩ = some v2 ∧ w3.cell? ⟨g, 3, none⟩ = some v3 ∧ Hid (g < w3.heap.size ∧ Below W.heap.size W w3) :=
  ⟨by rw [hb.cell (p := ⟨g, 0, none⟩) h.out.1]; exact h0, by rw [hb.cell (p := ⟨g, 1, none⟩) h.out.1]; exact h1, by rw [hb.cell (p := ⟨g, 2, none⟩) h.out.1]; exact h2, by rw [hb.cell (p := ⟨g, 3, none⟩) h.out.1]; exact h3, Lib.hid ⟨Nat.lt_of_lt_of_le h.out.1 hb.size, below_trans' h.out.2 hb⟩⟩
theorem fitE_of' {L : EL} (h : elB L = true) : FitE L := by
  intro e m
  have := okE_of (elB_mem h e m)
  have h1 := (word_len this.1).2
  have h2 := textB_len this.2
  rw [blen] at h1 h2
  omega
/-- the elements of an item, as a literal row -/
theorem rd_itE (w : World) (k t b : ByteArray) (d : Int) : RdG encE (w.alloc (.cells #[.string kKey, .string k, .string kTitle, .string t, .string kBody, .string b, .string kDay, .string (bs (dateT d))] 72)) (.slice (some ⟨w.heap.size, 0, none⟩) 4 4) (itE ⟨k, t, b, d⟩) := by
  have h := World.ownsRow_lit (e := 72) (size := 2) (base := 0) w #[.string kKey, .string k, .string kTitle, .string t, .string kBody, .string b, .string kDay, .string (bs (dateT d))] 4 (Nat.zero_le _) (by simp [maxLen]) rfl
  have h' : OwnE (w.alloc (.cells #[.string kKey, .string k, .string kTitle, .string t, .string kBody, .string b, .string kDay, .string (bs (dateT d))] 72)) 0 (.slice (some ⟨w.heap.size, 0, none⟩) 4 4) (itE ⟨k, t, b, d⟩) := h
  exact OwnG.rd h'
set_option maxRecDepth 100000 in
set_option maxHeartbeats 4000000 in
theorem itS_text (k t b : ByteArray) (d : Int) (w : World) (hf : FitI ⟨k, t, b, d⟩) :
    Calls Try.prog 47 #[.agg #[.string k, .string t, .string b, .int .i64 d]] w (GotStr (itT ⟨k, t, b, d⟩) w) := by
  have hB := Lib.hid ((Below.refl w.heap.size w).alloc (Nat.le_refl _) (.cells #[.string k, .string t, .string b, .int .i64 d] 28))
  have hv := Lib.hid (itS_valid k t b d (w.alloc (.cells #[.string k, .string t, .string b, .int .i64 d] 28)) hf)
  rcases hi : itB ⟨k, t, b, d⟩ with _ | _
  · have HI := Lib.hid hi
    have HR := Lib.hid (itT_out hi)
    clear hi
    go_enter Try.func47, Try.ntmps47
    go_wp2_with (go_at_call 44; refine hv.out.mono ?_; rintro e w2 ⟨rfl, hb2⟩; rw [HI.out]; have hb2 := Lib.hid (below_trans' hB.out hb2))
    go_ret
    exact ⟨by rw [HR.out]; rfl, hb2.out⟩
  · have HI := Lib.hid hi
    have HR := Lib.hid (itT_in hi)
    have hfit : FitE (itE ⟨k, t, b, d⟩) := fitE_of' (itE_valid hi)
    clear hi
    go_enter Try.func47, Try.ntmps47
    go_wp2_with fail
    refine hv.out.mono ?_
    rintro e w2 ⟨rfl, hb2⟩
    rw [HI.out]
    have c : ∀ j u, (#[.string k, .string t, .string b, .int .i64 d] : Array Value)[j]? = some u → w2.drew.cell? ⟨w.heap.size, j, none⟩ = some u := fun j u hj => by
      have := hb2.cell (p := ⟨w.heap.size, j, none⟩) (by simp)
      show w2.cell? _ = _
      rw [this, World.cell?_alloc_new]; exact hj
    have hst := Lib.hid (show w2.drew.cell? ⟨w.heap.size, 0, none⟩ = some (.string k) ∧ w2.drew.cell? ⟨w.heap.size, 1, none⟩ = some (.string t) ∧ w2.drew.cell? ⟨w.heap.size, 2, none⟩ = some (.string b) ∧ w2.drew.cell? ⟨w.heap.size, 3, none⟩ = some (.int .i64 d) ∧ Hid (w.heap.size < w2.drew.heap.size ∧ Below w.heap.size w w2.drew) from
      ⟨c 0 _ rfl, c 1 _ rfl, c 2 _ rfl, c 3 _ rfl, Lib.hid ⟨by have := hb2.size; simp at this; show _ < w2.heap.size; omega, Below.drew (below_trans' hB.out hb2)⟩⟩)
    clear c hb2
    go_wp2
    go_region_held3 (fun w' => w'.cell? ⟨w.heap.size, 0, none⟩ = some (.string k) ∧ w'.cell? ⟨w.heap.size, 1, none⟩ = some (.string t) ∧ w'.cell? ⟨w.heap.size, 2, none⟩ = some (.string b) ∧ w'.cell? ⟨w.heap.size, 3, none⟩ = some (.int .i64 d) ∧ Hid (w.heap.size < w'.heap.size ∧ Below w.heap.size w w'))
      (first | exact hst.out | exact hS5.out | exact hS3.out | exact keep4 (v0 := .string k) (v1 := .string t) (v2 := .string b) (v3 := .int .i64 d) ((Below.refl _ _).alloc (Nat.le_refl _) _) (by assumption) (by assumption) (by assumption) (by assumption) (by assumption) | (go_split_ands; exact keep4 (v0 := .string k) (v1 := .string t) (v2 := .string b) (v3 := .int .i64 d) ((Below.refl _ _).alloc (Nat.le_refl _) _) (by assumption) (by assumption) (by assumption) (by assumption) (by assumption)))
      (first
        | (go_at_call 63; refine (dateS_any d _).mono ?_; rintro e w3 ⟨rfl, hb3⟩; go_split_ands; have hS3 := Lib.hid (keep4 (W := w) (v0 := .string k) (v1 := .string t) (v2 := .string b) (v3 := .int .i64 d) hb3 (by assumption) (by assumption) (by assumption) (by assumption) (by assumption)))
        | (go_at_call 67; refine (elS_text _ (itE ⟨k, t, b, d⟩) _ (rd_itE _ k t b d) hfit).mono ?_; rintro e w5 ⟨rfl, m5, rfl⟩; go_split_ands; have hS5 := Lib.hid (keep4 (W := w) (v0 := .string k) (v1 := .string t) (v2 := .string b) (v3 := .int .i64 d) (below_drewN _ m5) (by assumption) (by assumption) (by assumption) (by assumption) (by assumption))))
    go_split_ands
    rename Hid (w.heap.size < _ ∧ _) => hS
    go_wp2
    go_ret
    exact ⟨by rw [HR.out]; rfl, hS.out.2⟩
/-- an item and whether there is one, in full -/
def GotIR (s : List UInt8) (w : World) (e : Ending) (w' : World) : Prop := ∃ (L : EL) (ok : Bool) (k t b : ByteArray) (d : Int) (z : Bool), RdE s L ok ∧ itR L = (⟨k, t, b, d⟩, z) ∧ e = .returned (.tuple #[.agg #[.string k, .string t, .string b, .int .i64 d], .bool z]) ∧ Below w.heap.size w w'
def nmJ (j : Nat) : ByteArray := if j = 0 then kKey else if j = 1 then kTitle else if j = 2 then kDay else kBody
def chkJ (L : EL) (j : Nat) : Bool := if j = 3 then decide (cntE L (nmJ j) ≤ 1) else decide (cntE L (nmJ j) = 1)
def okJ (ok : Bool) (L : EL) : Nat → Bool
  | 0 => ok
  | j + 1 => okJ ok L j && chkJ L j
theorem okJ_four (ok : Bool) (L : EL) : okJ ok L 4 = (ok && cntOk L) := by
  simp [okJ, chkJ, nmJ, cntOk, Bool.and_assoc]
theorem okJ_bad {ok : Bool} {L : EL} {j : Nat} (h : chkJ L j = false) : okJ ok L (j + 1) = false := by simp [okJ, h]
theorem okJ_good {ok : Bool} {L : EL} {j : Nat} (h : chkJ L j = true) : okJ ok L (j + 1) = okJ ok L j := by simp [okJ, h]
theorem chk_many {L : EL} {j : Nat} (h : 1 < cntE L (nmJ j)) : chkJ L j = false := by unfold chkJ; split <;> simp <;> omega
theorem chk_none {L : EL} {j : Nat} (h : cntE L (nmJ j) = 0) (hj : j < 3) : chkJ L j = false := by
  unfold chkJ; rw [if_neg (by omega), h]; rfl
theorem chk_one {L : EL} {j : Nat} (h : cntE L (nmJ j) = 1) : chkJ L j = true := by unfold chkJ; rw [h]; split <;> rfl
theorem chk_last {L : EL} {j : Nat} (h : cntE L (nmJ j) = 0) (hj : ¬ j < 3) (h4 : j < 4) : chkJ L j = true := by
  unfold chkJ; rw [if_pos (by omega), h]; rfl
theorem nmJ_cells (w : World) (j : Nat) (hj : j < 4) : (w.alloc (.cells #[.string ⟨#[107, 101, 121]⟩, .string ⟨#[116, 105, 116, 108, 101]⟩, .string ⟨#[100, 97, 121]⟩, .string ⟨#[98, 111, 100, 121]⟩] 9)).cell? ⟨w.heap.size, j, none⟩ = some (.string (nmJ j)) := by
  rw [World.cell?_alloc_new]
  obtain rfl | rfl | rfl | rfl : j = 0 ∨ j = 1 ∨ j = 2 ∨ j = 3 := by omega
  all_goals rfl
theorem zero_ret {L : EL} {ok : Bool} {s : List UInt8} (hR : RdE s L ok) (h : okJ ok L 4 = false) : itR L = (It.zero, false) := by
  rw [okJ_four] at h
  rcases ok with _ | _
  · rcases hR with ⟨q, _⟩ | ⟨_, q, _⟩
    · cases q
    · rw [q]; exact itR_nil
  · exact itR_cnt (by simpa using h)
set_option maxRecDepth 100000 in
set_option maxHeartbeats 16000000 in
theorem rdS_item (s : ByteArray) (w : World) (hs : s.size ≤ 90000000) :
    Calls Try.prog 53 #[.string s] w (GotIR s.data.toList w) := by
  obtain ⟨w1, hw1⟩ : ∃ w1, w.alloc (.cells #[.string ⟨#[]⟩, .string ⟨#[]⟩, .string ⟨#[]⟩, .int .i64 0] 28) = w1 := ⟨_, rfl⟩
  have hw1s : w1.heap.size = w.heap.size + 1 := by rw [← hw1]; simp
  have hzero : ∀ j u, (#[.string ⟨#[]⟩, .string ⟨#[]⟩, .string ⟨#[]⟩, .int .i64 0] : Array Value)[j]? = some u → w1.cell? ⟨w.heap.size, j, none⟩ = some u := fun j u h => by rw [← hw1, World.cell?_alloc_new]; exact h
  have hfz : ∀ j, w1.frozen? ⟨w.heap.size, j, none⟩ = false := fun j => by
    have h := heap_alloc_new w (.cells #[.string ⟨#[]⟩, .string ⟨#[]⟩, .string ⟨#[]⟩, .int .i64 0] 28)
    rw [hw1] at h; simp [World.frozen?, h]
  have hb1 : Below w.heap.size w w1 := by rw [← hw1]; exact (Below.refl _ _).alloc (Nat.le_refl _) _
  have hzero := Lib.hid hzero
  have hfz := Lib.hid hfz
  have hb1 := Lib.hid hb1
  go_enter Try.func53, Try.ntmps53
  go_wp2_with fail
  have hw1 := Lib.hid hw1
  have hw1s := Lib.hid hw1s
  refine (rdS_elems s w1 hs).mono ?_
  rintro e w2 ⟨v, L, ok, rfl, hR, hown, hb2⟩
  have hrd2 := OwnG.rd hown
  have HR := Lib.hid hR
  have HB2 := Lib.hid hb2
  clear hR hown hb2
  obtain ⟨A, c, rfl, hLc, hcm⟩ : ∃ A c, v = .slice A L.length c ∧ L.length ≤ c ∧ c ≤ maxLen := by obtain ⟨A, c, hv, h1, h2, _⟩ := hrd2; exact ⟨A, c, hv, h1, h2⟩
  unfold maxLen at hcm
  have h8 : L.length ≤ 8 := by
    rcases HR.out with ⟨_, h, _⟩ | ⟨_, h, _⟩
    · exact elB_len h
    · rw [h]; simp
  have hfit : FitE L := by
    rcases HR.out with ⟨_, h, _⟩ | ⟨_, h, _⟩
    · exact fitE_of' h
    · rw [h]; intro e m; simp at m
  go_wp2
  obtain ⟨w3, hw3⟩ : ∃ w3, w2.alloc (.cells #[.string ⟨#[107, 101, 121]⟩, .string ⟨#[116, 105, 116, 108, 101]⟩, .string ⟨#[100, 97, 121]⟩, .string ⟨#[98, 111, 100, 121]⟩] 9) = w3 := ⟨_, rfl⟩
  have hb23 : Below w2.heap.size w2 w3 := by rw [← hw3]; exact (Below.refl _ _).alloc (Nat.le_refl _) _
  have hnm : ∀ j, j < 4 → w3.cell? ⟨w2.heap.size, j, none⟩ = some (.string (nmJ j)) := fun j hj => by rw [← hw3]; exact nmJ_cells w2 j hj
  have hnm := Lib.hid hnm
  have hrd3 := hrd2.below hb23
  have HB3 := Lib.hid (below_trans' HB2.out hb23)
  rw [hw3]
  clear hb23 hrd2
  have hw3 := Lib.hid hw3
  go_loopw [5, 7, 8, 9] (fun okv jv mv kv wr => ∃ j : Nat, j ≤ 4 ∧ jv = .int .i64 j ∧ okv = .bool (okJ ok L j) ∧ Hid (∃ m, wr = w3.drewN m)) (fun _ jv _ _ _ => 4 - (intOf jv).toNat)
  case atStart => exact ⟨0, by omega, rfl, rfl, Lib.hid ⟨0, rfl⟩⟩
  case round =>
    obtain ⟨j, hj, rfl, rfl, hwr⟩ := hrel
    by_cases hj4 : j < 4
    · obtain ⟨ob, hob⟩ : ∃ ob, okJ ok L j = ob := ⟨_, rfl⟩
      have HOB := Lib.hid hob
      rw [hob]
      clear hob
      have hjj : (j : Int) < 4 := by omega
      have hj0 : (0 : Int) ≤ (j : Int) := by omega
      go_wp2
      obtain ⟨wo, rfl⟩ : ∃ wo : World, wo = wr := ⟨_, rfl⟩
      go_loopw [8, 9] (fun mv kv wi => ∃ k : Nat, k ≤ L.length ∧ kv = .int .i64 k ∧ mv = .int .i64 (cntE (L.take k) (nmJ j)) ∧ Hid (∃ m, wi = w3.drewN m)) (fun _ kv _ => L.length - (intOf kv).toNat)
      case atStart => exact ⟨0, Nat.zero_le _, rfl, by simp [cntE], hwr⟩
      case round =>
        obtain ⟨k, hk, rfl, rfl, hwi⟩ := hrel
        by_cases hlt : k < L.length
        · have hc : wr.cell? ⟨w2.heap.size, j, none⟩ = some (.string (nmJ j)) := by obtain ⟨m, hm⟩ := hwi.out; rw [hm]; exact hnm.out j hj4
          have hL : L ≠ [] := by intro e; rw [e] at hlt; simp at hlt
          obtain ⟨b, o, c', hv, _, _, hb, h4⟩ := hrd3.some hL
          obtain ⟨rfl, rfl⟩ : A = some ⟨b, o, none⟩ ∧ c = c' := by simpa using hv
          have hd : wr.cell? ⟨b, o + k * 2, none⟩ = some (.string L[k].1) := by obtain ⟨m, hm⟩ := hwi.out; rw [hm]; exact (rdE_cells h4 hlt).1
          have hct := Lib.hid (cnt_take (n := nmJ j) hlt)
          have hle : cntE (L.take k) (nmJ j) ≤ 8 := by
            have := List.countP_le_length (p := fun e : ByteArray × ByteArray => decide (e.1 = nmJ j)) (l := L.take k)
            have := List.length_take_le k L
            unfold cntE; omega
          obtain ⟨q, hq⟩ : ∃ q, cntE (L.take k) (nmJ j) = q := ⟨_, rfl⟩
          rw [hq] at hle hct ⊢
          obtain ⟨nm, hnme⟩ : ∃ nm, L[k].1 = nm := ⟨_, rfl⟩
          rw [hnme] at hd hct
          have hk0 : (0 : Int) ≤ (k : Int) := by omega
          have hkk : (k : Int) < (L.length : Int) := by omega
          clear h4 hq hnme hv
          by_cases hn : nm = nmJ j
          · have hN : Hid (cntE (L.take (k + 1)) (nmJ j) = q + 1) := Lib.hid (by rw [hct.out, if_pos hn])
            have e := str_same hn
            clear hn
            go_wp2
            go_quiet (fail)
            go_wp2
            go_roundw
            case rel => exact ⟨k + 1, by omega, by go_num, by rw [hN.out]; go_num, Lib.hid (by obtain ⟨m, hm⟩ := hwi.out; exact ⟨_, by rw [hm, drewN_add]⟩)⟩
            case measure => simp [intOf]; omega
          · have hN : Hid (cntE (L.take (k + 1)) (nmJ j) = q) := Lib.hid (by rw [hct.out, if_neg hn]; rfl)
            have e := str_other hn
            clear hn
            go_wp2
            go_quiet (fail)
            go_wp2
            go_roundw
            case rel => exact ⟨k + 1, by omega, by go_num, by rw [hN.out], Lib.hid (by obtain ⟨m, hm⟩ := hwi.out; exact ⟨_, by rw [hm, drewN_add]⟩)⟩
            case measure => simp [intOf]; omega
        · have hfull : L.take k = L := List.take_of_length_le (by omega)
          rw [hfull]
          obtain ⟨q, hq⟩ : ∃ q, cntE L (nmJ j) = q := ⟨_, rfl⟩
          have hle : q ≤ 8 := by
            have := List.countP_le_length (p := fun e : ByteArray × ByteArray => decide (e.1 = nmJ j)) (l := L)
            rw [← hq]; unfold cntE; omega
          rw [hq]
          have HQ := Lib.hid hq
          clear hq hfull
          by_cases hm1 : 1 < q
          · have HN := Lib.hid (okJ_bad (ok := ok) (chk_many (j := j) (by rw [HQ.out]; exact hm1)))
            go_wp2
            go_roundw
            case rel => exact ⟨j + 1, by omega, by go_num, by rw [HN.out], hwi⟩
            case measure => simp [intOf]; omega
          · by_cases hm0 : q = 0
            · subst hm0
              by_cases hj3 : j < 3
              · have HN := Lib.hid (okJ_bad (ok := ok) (chk_none (j := j) HQ.out hj3))
                go_wp2
                go_roundw
                case rel => exact ⟨j + 1, by omega, by go_num, by rw [HN.out], hwi⟩
                case measure => simp [intOf]; omega
              · have HN := Lib.hid ((okJ_good (ok := ok) (chk_last (j := j) HQ.out hj3 hj4)).trans HOB.out)
                have hj3' : j = 3 := by omega
                subst hj3'
                go_wp2
                go_roundw
                case rel => exact ⟨3 + 1, by omega, by go_num, by rw [HN.out], hwi⟩
                case measure => simp [intOf]
            · have hq1 : q = 1 := by omega
              subst hq1
              have HN := Lib.hid ((okJ_good (ok := ok) (chk_one (j := j) HQ.out)).trans HOB.out)
              go_wp2
              go_roundw
              case rel => exact ⟨j + 1, by omega, by go_num, by rw [HN.out], hwi⟩
              case measure => simp [intOf]; omega
    · have hj44 : j = 4 := by omega
      subst hj44
      obtain ⟨m0, hm0⟩ := hwr.out
      obtain ⟨w4, hw4⟩ : ∃ w4, w3.drewN m0 = w4 := ⟨_, rfl⟩
      rw [hw4] at hm0
      subst hm0
      have hrd4 : RdG encE wr (.slice A L.length c) L := by rw [← hw4]; exact hrd3.below (below_drewN w3 m0)
      have hx34 : Below w3.heap.size w3 wr := by rw [← hw4]; exact below_drewN w3 m0
      have HB4 := Lib.hid (below_trans' HB3.out hx34)
      clear hw4 hwr hrd3 hx34
      rcases hO : okJ ok L 4 with _ | _
      · have HZ := Lib.hid (zero_ret HR.out hO)
        have z : ∀ j u, (#[.string ⟨#[]⟩, .string ⟨#[]⟩, .string ⟨#[]⟩, .int .i64 0] : Array Value)[j]? = some u → wr.cell? ⟨w.heap.size, j, none⟩ = some u := fun j u h => by
          rw [HB4.out.cell (p := ⟨w.heap.size, j, none⟩) (by rw [hw1s.out]; exact Nat.lt_succ_self _)]; exact hzero.out j u h
        have z0 := z 0 _ rfl
        have z1 := z 1 _ rfl
        have z2 := z 2 _ rfl
        have z3 := z 3 _ rfl
        have zf : ∀ j, wr.frozen? ⟨w.heap.size, j, none⟩ = false := fun j => by
          rw [HB4.out.frozen (p := ⟨w.heap.size, j, none⟩) (by rw [hw1s.out]; exact Nat.lt_succ_self _)]; exact hfz.out j
        clear z hO
        have HBw := Lib.hid (below_trans' hb1.out HB4.out)
        go_wp2
        refine bodyPost_ret (v := .tuple #[.agg #[.string ⟨#[]⟩, .string ⟨#[]⟩, .string ⟨#[]⟩, .int .i64 0], .bool false]) (by simp [results, Try.results53, go_sem, z0, z1, z2, z3]) rfl ⟨L, ok, _, _, _, _, false, HR.out, HZ.out, rfl, ?_⟩
        exact (((HBw.out.setCell (Nat.le_refl _) _).setCell (Nat.le_refl _) _).setCell (Nat.le_refl _) _).setCell (Nat.le_refl _) _
      · have hO2 := hO
        rw [okJ_four] at hO2
        obtain ⟨hok, hcn⟩ : ok = true ∧ cntOk L = true := by simpa using hO2
        have hBL : elB L = true := by
          rcases HR.out with ⟨_, h, _⟩ | ⟨h, _⟩
          · exact h
          · rw [hok] at h; cases h
        have HC := Lib.hid hcn
        have sz := fun n => fst_size (n := n) hBL
        have ex := fun n => elX_fst (n := n) hBL
        clear hO hO2 hok hcn hBL
        have ex1 := Lib.hid (ex kKey)
        have ex2 := Lib.hid (ex kTitle)
        have ex3 := Lib.hid (ex kBody)
        have ex4 := Lib.hid (ex kDay)
        have m4 : (fstE L kDay).size ≤ maxLen := by have := sz kDay; unfold maxLen; omega
        have hfi : FitI (itOf L) := ⟨by have := sz kKey; show (fstE L kKey).size ≤ _; omega, by have := sz kTitle; show (fstE L kTitle).size ≤ _; omega, by have := sz kBody; show (fstE L kBody).size ≤ _; omega⟩
        clear sz ex
        have hit : Hid (itOf L = ⟨fstE L kKey, fstE L kTitle, fstE L kBody, readD (fstE L kDay).data.toList⟩) := Lib.hid rfl
        go_wp2_with fail
        refine (elS_find _ L kKey _ hrd4 hfit).mono ?_
        rintro e w' ⟨rfl, rfl⟩
        rw [ex1.out]
        go_wp2_with fail
        refine (elS_find _ L kTitle _ hrd4 hfit).mono ?_
        rintro e w' ⟨rfl, rfl⟩
        rw [ex2.out]
        go_wp2_with fail
        refine (elS_find _ L kBody _ hrd4 hfit).mono ?_
        rintro e w' ⟨rfl, rfl⟩
        rw [ex3.out]
        go_wp2_with fail
        refine (elS_find _ L kDay _ hrd4 hfit).mono ?_
        rintro e w' ⟨rfl, rfl⟩
        rw [ex4.out]
        obtain ⟨xk, hxk⟩ : ∃ x, fstE L kKey = x := ⟨_, rfl⟩
        obtain ⟨xt, hxt⟩ : ∃ x, fstE L kTitle = x := ⟨_, rfl⟩
        obtain ⟨xb, hxb⟩ : ∃ x, fstE L kBody = x := ⟨_, rfl⟩
        obtain ⟨xd, hxd⟩ : ∃ x, fstE L kDay = x := ⟨_, rfl⟩
        rw [hxk, hxt, hxb, hxd] at hit
        rw [hit.out] at hfi
        rw [hxd] at m4
        rw [hxk, hxt, hxb, hxd]
        clear hxk hxt hxb hxd ex1 ex2 ex3 ex4
        obtain ⟨dn, hdn⟩ : ∃ dn, readD xd.data.toList = dn := ⟨_, rfl⟩
        rw [hdn] at hit hfi
        have hdn := Lib.hid hdn
        have hsz4 := HB4.out.size
        go_wp2_with fail
        refine (rdS_any xd _ m4).mono ?_
        rintro e w5 ⟨rfl, hb5⟩
        rw [hdn.out]
        have HB5 := Lib.hid (below_trans' HB4.out hb5)
        have hsz5 := HB5.out.size
        have hb6 := Lib.hid (HB5.out.alloc hsz5 (.cells #[.string xk, .string xt, .string xb, .int .i64 dn] 28))
        have hlt6 : w5.heap.size < (w5.alloc (.cells #[.string xk, .string xt, .string xb, .int .i64 dn] 28)).heap.size := by simp
        have hlt6 := Lib.hid hlt6
        clear hb5
        go_wp2_with fail
        refine (itS_valid xk xt xb dn _ hfi).mono ?_
        rintro e w7 ⟨rfl, hb7⟩
        have i0 : w7.cell? ⟨w5.heap.size, 0, none⟩ = some (.string xk) := by rw [hb7.cell (p := ⟨w5.heap.size, 0, none⟩) hlt6.out, World.cell?_alloc_new]; rfl
        have i1 : w7.cell? ⟨w5.heap.size, 1, none⟩ = some (.string xt) := by rw [hb7.cell (p := ⟨w5.heap.size, 1, none⟩) hlt6.out, World.cell?_alloc_new]; rfl
        have i2 : w7.cell? ⟨w5.heap.size, 2, none⟩ = some (.string xb) := by rw [hb7.cell (p := ⟨w5.heap.size, 2, none⟩) hlt6.out, World.cell?_alloc_new]; rfl
        have i3 : w7.cell? ⟨w5.heap.size, 3, none⟩ = some (.int .i64 dn) := by rw [hb7.cell (p := ⟨w5.heap.size, 3, none⟩) hlt6.out, World.cell?_alloc_new]; rfl
        have HB7 := Lib.hid (below_trans' hb6.out hb7)
        have z : ∀ j u, (#[.string ⟨#[]⟩, .string ⟨#[]⟩, .string ⟨#[]⟩, .int .i64 0] : Array Value)[j]? = some u → w7.cell? ⟨w.heap.size, j, none⟩ = some u := fun j u h => by
          rw [HB7.out.cell (p := ⟨w.heap.size, j, none⟩) (by rw [hw1s.out]; exact Nat.lt_succ_self _)]; exact hzero.out j u h
        have z0 := z 0 _ rfl
        have z1 := z 1 _ rfl
        have z2 := z 2 _ rfl
        have z3 := z 3 _ rfl
        have zf : ∀ j, w7.frozen? ⟨w.heap.size, j, none⟩ = false := fun j => by
          rw [HB7.out.frozen (p := ⟨w.heap.size, j, none⟩) (by rw [hw1s.out]; exact Nat.lt_succ_self _)]; exact hfz.out j
        have HBw := Lib.hid (below_trans' hb1.out HB7.out)
        clear z hb7
        rcases hiB : itB ⟨xk, xt, xb, dn⟩ with _ | _
        · have HZ : Hid (itR L = (It.zero, false)) := Lib.hid (itR_bad (by rw [hit.out]; exact hiB))
          clear hiB
          go_wp2
          refine bodyPost_ret (v := .tuple #[.agg #[.string ⟨#[]⟩, .string ⟨#[]⟩, .string ⟨#[]⟩, .int .i64 0], .bool false]) (by simp [results, Try.results53, go_sem, z0, z1, z2, z3]) rfl ⟨L, ok, _, _, _, _, false, HR.out, HZ.out, rfl, ?_⟩
          exact (((HBw.out.setCell (Nat.le_refl _) _).setCell (Nat.le_refl _) _).setCell (Nat.le_refl _) _).setCell (Nat.le_refl _) _
        · have HZ : Hid (itR L = (⟨xk, xt, xb, dn⟩, true)) := Lib.hid (by rw [itR_in HC.out (by rw [hit.out]; exact hiB), hit.out])
          clear hiB
          go_wp2
          refine bodyPost_ret (v := .tuple #[.agg #[.string xk, .string xt, .string xb, .int .i64 dn], .bool true]) (by simp [results, Try.results53, go_sem, z0, z1, z2, z3]) rfl ⟨L, ok, _, _, _, _, true, HR.out, HZ.out, rfl, ?_⟩
          exact (((HBw.out.setCell (Nat.le_refl _) _).setCell (Nat.le_refl _) _).setCell (Nat.le_refl _) _).setCell (Nat.le_refl _) _
theorem toI_any (k t b : ByteArray) (d : Int) (w : World) :
    Calls Try.prog 55 #[.agg #[.string k, .string t, .string b, .int .i64 d]] w fun e w' => e = .returned (.agg #[.string k, .string t, .string b, .int .i64 d]) ∧ Below w.heap.size w w' := by
  go_enter Try.func55, Try.ntmps55
  go_wp2
  refine bodyPost_ret (v := .agg #[.string k, .string t, .string b, .int .i64 d]) (by simp [results, Try.results55, go_sem]) rfl ⟨rfl, ?_⟩
  repeat (first | exact Below.refl _ _ | refine Below.alloc ?_ (by simp <;> omega) _ | refine Below.setCell ?_ (by simp <;> omega) _)
theorem eqI_any (k t b : ByteArray) (d : Int) (w : World) :
    Calls Try.prog 39 #[.agg #[.string k, .string t, .string b, .int .i64 d], .agg #[.string k, .string t, .string b, .int .i64 d]] w fun e w' => e = .returned (.bool true) ∧ Below w.heap.size w w' := by
  have q1 := str_same (a := k) (b := k) rfl
  have q2 := str_same (a := t) (b := t) rfl
  have q3 := str_same (a := b) (b := b) rfl
  have q4 : (d == d) = true := by simp
  go_enter Try.func39, Try.ntmps39
  go_wp2
  go_ret
  refine ⟨rfl, ?_⟩
  repeat (first | exact Below.refl _ _ | refine Below.alloc ?_ (by simp <;> omega) _ | refine Below.setCell ?_ (by simp <;> omega) _)
def Sz1I (k t b : ByteArray) : Prop := k.size ≤ 1048576 ∧ t.size ≤ 1048576 ∧ b.size ≤ 1048576
theorem szI_any (k t b : ByteArray) (d : Int) (left : Int) (w : World) (hk : k.size ≤ maxLen) (ht : t.size ≤ maxLen) (hb : b.size ≤ maxLen) (h0 : 0 ≤ left) (h1 : left ≤ 1048576) :
    Calls Try.prog 54 #[.agg #[.string k, .string t, .string b, .int .i64 d], .int .i64 left] w (GotSz (Sz1I k t b) left w) := by
  unfold maxLen at hk ht hb
  by_cases a : left - (k.size : Int) < 0
  · go_enter Try.func54, Try.ntmps54
    go_wp2
    go_ret
    exact ⟨-1, rfl, by omega, fun h => absurd h (by omega), (Below.refl _ _).alloc (Nat.le_refl _) _⟩
  · by_cases a2 : left - (k.size : Int) - (t.size : Int) < 0
    · go_enter Try.func54, Try.ntmps54
      go_wp2
      go_ret
      exact ⟨-1, rfl, by omega, fun h => absurd h (by omega), (Below.refl _ _).alloc (Nat.le_refl _) _⟩
    · by_cases a3 : left - (k.size : Int) - (t.size : Int) - (b.size : Int) < 0
      · go_enter Try.func54, Try.ntmps54
        go_wp2
        go_ret
        exact ⟨-1, rfl, by omega, fun h => absurd h (by omega), (Below.refl _ _).alloc (Nat.le_refl _) _⟩
      · go_enter Try.func54, Try.ntmps54
        go_wp2
        go_ret
        exact ⟨_, rfl, by omega, fun h => ⟨by omega, by omega, by omega⟩, (Below.refl _ _).alloc (Nat.le_refl _) _⟩
theorem codeArg_below {w w' : World} {A : Option Addr} {n c : Nat} (h : CodeArg w A n c) (hb : Below w.heap.size w w') : CodeArg w' A n c := by
  obtain ⟨h1, h2, h3⟩ := h
  refine ⟨h1, h2, fun hn => ?_⟩
  obtain ⟨ad, rfl, hlt, hc⟩ := h3 hn
  refine ⟨ad, rfl, Nat.lt_of_lt_of_le hlt hb.size, fun i hi => ?_⟩
  obtain ⟨z, a, b⟩ := hc i hi
  exact ⟨z, (hb.cell (p := ad.add i) (by rw [add_block]; exact hlt)).trans a, b⟩
/-- the result's variable, as the call made it, behind whatever kept it -/
theorem zeroI {w w1 wX : World} (hw : w.alloc (.cells #[.string ⟨#[]⟩, .string ⟨#[]⟩, .string ⟨#[]⟩, .int .i64 0] 28) = w1) (hB : Below w1.heap.size w1 wX) :
    wX.cell? ⟨w.heap.size, 0, none⟩ = some (.string ⟨#[]⟩) ∧ wX.cell? ⟨w.heap.size, 1, none⟩ = some (.string ⟨#[]⟩) ∧ wX.cell? ⟨w.heap.size, 2, none⟩ = some (.string ⟨#[]⟩) ∧ wX.cell? ⟨w.heap.size, 3, none⟩ = some (.int .i64 0) ∧ (∀ j, wX.frozen? ⟨w.heap.size, j, none⟩ = false) ∧ Below w.heap.size w wX := by
  subst hw
  have hrow := heap_alloc_new w (.cells #[.string ⟨#[]⟩, .string ⟨#[]⟩, .string ⟨#[]⟩, .int .i64 0] 28)
  have hX := (hB.block w.heap.size (by simp)).trans hrow
  refine ⟨cell_of_row _ w.heap.size 0 _ _ (0, 0) hX, cell_of_row _ w.heap.size 1 _ _ (0, 0) hX, cell_of_row _ w.heap.size 2 _ _ (0, 0) hX, cell_of_row _ w.heap.size 3 _ _ (0, 0) hX, fun j => by simp [World.frozen?, hX], ?_⟩
  exact ((Below.refl _ _).alloc (Nat.le_refl _) _).trans (hB.mono (by simp))
theorem rd_below {W w w' : World} {g m : Nat} (h : Rd W w g m) (hb : Below w.heap.size w w') : Rd W w' g m := by
  obtain ⟨A, n, c, p, hh, hp, hc⟩ := h.hd
  exact ⟨h.bel.trans (hb.mono h.bel.size), h.lo, A, n, c, p, (hb.block g h.lt).trans hh, hp, hc⟩
end Go.Proofs.Yteknjaocamlcpaa
