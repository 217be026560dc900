/-
  The verifier's own text: ActI1.
-/
import Derived.Test.YtacapigdfabiiaaRows
import Derived.Test.YtacapigdfabiiaaHD
import Derived.Test.YtacapigdfabiiaaHC
import Derived.Test.YtacapigdfabiiaaNumI
import Derived.Laws.Cover1
import Derived.Deep.DeepCutAuto
import Derived.Deep.RegionLaw
import Derived.Deep.RegionHeld3
import Derived.WalkKit
import Derived.ProofKit
import Derived.Below
import Derived.Lib.Hide
import Derived.Outline
import Derived.BigQuiet
import Derived.Deep.QuietTactic
import Derived.Deep.Draws
import Derived.Laws.OwnMore
import Derived.Laws.Rows
import Derived.WalkSpells
import Derived.Deep.RegionWith
namespace Go.Proofs.Ytacapigdfabiiaa
open Go.RowKit
set_option linter.unusedVariables false
/-- whether one has the feed -/
def hasF (L : List Ac) (f : ByteArray) : Bool := L.any fun a => decide (a.feed = f)
theorem hasF_yes {L : List Ac} {f : ByteArray} {j : Nat} (h : j < L.length) (e : L[j].feed = f) : hasF L f = true := by
  unfold hasF; rw [List.any_eq_true]; exact ⟨_, List.getElem_mem h, decide_eq_true e⟩
theorem hasF_no {L : List Ac} {f : ByteArray} (h : ∀ j (hj : j < L.length), L[j].feed ≠ f) : hasF L f = false := by
  unfold hasF; rw [List.any_eq_false]; intro a m
  obtain ⟨j, hj, rfl⟩ := List.getElem_of_mem m
  simp [h j hj]
theorem hasF_had {L : List Ac} {f : ByteArray} (h : hasF L f = true) : ∃ j, ∃ hj : j < L.length, L[j].feed = f := by
  unfold hasF at h; rw [List.any_eq_true] at h
  obtain ⟨a, m, q⟩ := h
  obtain ⟨j, hj, rfl⟩ := List.getElem_of_mem m
  exact ⟨j, hj, of_decide_eq_true q⟩
theorem hasF_not {L : List Ac} {f : ByteArray} (h : hasF L f = false) : ∀ j (hj : j < L.length), L[j].feed ≠ f := fun j hj e => by
  rw [hasF_yes hj e] at h; cases h
theorem acL_lt {a b : Ac} {q : Bool} (h : acL a b = q) : Op.bytesLess a.name.toList b.name.toList = q := by
  rw [ByteArray.toList_eq, ByteArray.toList_eq]; exact h
set_option maxRecDepth 100000 in
set_option maxHeartbeats 2000000 in
theorem acI_one (name feed : ByteArray) (sign : Int) (w : World) (hf : FitAc ⟨name, feed, sign⟩) :
    Calls Try.prog 50 #[.agg #[.string name, .string feed, .int .i64 sign]] w (GotB (acB ⟨name, feed, sign⟩) w) := by
  obtain ⟨m0, m1⟩ := hf
  have m0 := fit_max m0
  have m1 := fit_max m1
  simp only at m0 m1
  obtain ⟨w1, hw1⟩ : ∃ w1, w.alloc (.cells #[.string name, .string feed, .int .i64 sign] 33) = w1 := ⟨_, rfl⟩
  have hB1 : Hid (Below w.heap.size w w1) := Lib.hid (by rw [← hw1]; exact (Below.refl _ _).alloc (Nat.le_refl _) _)
  obtain ⟨y0, y1, y2⟩ := row3 hw1 (Below.refl _ _)
  rcases hi0 : wordB name.data.toList with _ | _
  · have HR := Lib.hid (acB_bad (a := ⟨name, feed, sign⟩) (.inl hi0))
    have H0 := Lib.hid hi0
    clear hi0
    go_enter Try.func50, Try.ntmps50
    go_wp2_with (go_at_call 34; ((with_reducible refine (word_any name _ m0).mono ?_); rintro e w' ⟨rfl, rfl⟩; rw [H0.out]))
    go_ret
    exact ⟨ret_bool HR.out.symm, hB1.out⟩
  · rcases hi1 : wordB feed.data.toList with _ | _
    · have HR := Lib.hid (acB_bad (a := ⟨name, feed, sign⟩) (.inr (.inl hi1)))
      have H0 := Lib.hid hi0
      have H1 := Lib.hid hi1
      clear hi0 hi1
      go_enter Try.func50, Try.ntmps50
      go_wp2_with (first | (go_at_call 34; ((with_reducible refine (word_any name _ m0).mono ?_); rintro e w' ⟨rfl, rfl⟩; rw [H0.out])) | (go_at_call 34; ((with_reducible refine (word_any feed _ m1).mono ?_); rintro e w' ⟨rfl, rfl⟩; rw [H1.out])))
      go_ret
      exact ⟨ret_bool HR.out.symm, hB1.out⟩
    · have H0 := Lib.hid hi0
      have H1 := Lib.hid hi1
      rcases s0 : inB sign 0 1000000000 with _ | _
      · have HR := Lib.hid (acB_bad (a := ⟨name, feed, sign⟩) (.inr (.inr s0)))
        have H2 := Lib.hid s0
        clear hi0 hi1 s0
        go_enter Try.func50, Try.ntmps50
        go_wp2_with (first | (go_at_call 34; ((with_reducible refine (word_any name _ m0).mono ?_); rintro e w' ⟨rfl, rfl⟩; rw [H0.out])) | (go_at_call 34; ((with_reducible refine (word_any feed _ m1).mono ?_); rintro e w' ⟨rfl, rfl⟩; rw [H1.out])) | (go_at_call 44; ((with_reducible refine (num_any sign _).mono ?_); rintro e w' ⟨rfl, rfl⟩; rw [H2.out])))
        go_ret
        exact ⟨ret_bool HR.out.symm, hB1.out⟩
      · have HR := Lib.hid (acB_good (a := ⟨name, feed, sign⟩) hi0 hi1 s0)
        have H2 := Lib.hid s0
        clear hi0 hi1 s0
        go_enter Try.func50, Try.ntmps50
        go_wp2_with (first | (go_at_call 34; ((with_reducible refine (word_any name _ m0).mono ?_); rintro e w' ⟨rfl, rfl⟩; rw [H0.out])) | (go_at_call 34; ((with_reducible refine (word_any feed _ m1).mono ?_); rintro e w' ⟨rfl, rfl⟩; rw [H1.out])) | (go_at_call 44; ((with_reducible refine (num_any sign _).mono ?_); rintro e w' ⟨rfl, rfl⟩; rw [H2.out])))
        go_ret
        exact ⟨ret_bool HR.out.symm, hB1.out⟩
set_option maxRecDepth 100000 in
set_option maxHeartbeats 2000000 in
theorem acI_feed (v : Value) (L : List Ac) (f : ByteArray) (w : World) (h : RdG encAc w v L) :
    Calls Try.prog 51 #[v, .string f] w (GotB (hasF L f) w) := by
  by_cases hL : L = []
  · subst hL
    obtain ⟨A, c, rfl, hc⟩ := h.nil
    go_enter Try.func51, Try.ntmps51
    go_wp2
    refine wp_loop_rounds 1 ?_
    rw [rounds_succ]; go_wp2
    go_ret
    exact ⟨rfl, Below.refl _ _⟩
  · obtain ⟨b, o, c, rfl, h1, h2, hb, h4⟩ := h.some hL
    unfold maxLen at h2
    have hcells := Lib.hid (fun k (hk : k < L.length) => rdAc_cells h4 hk)
    clear h4 hL
    go_enter Try.func51, Try.ntmps51
    go_wp2
    go_loopw [9] (fun i wr => ∃ k : Nat, k ≤ L.length ∧ i = .int .i64 k ∧ Hid (∀ j (hj : j < L.length), j < k → L[j].feed ≠ f) ∧ Hid (Below w.heap.size w wr)) (fun i _ => L.length - (intOf i).toNat)
    case atStart => exact ⟨0, Nat.zero_le _, rfl, Lib.hid (by intro j hj h; omega), Lib.hid (Below.refl _ _)⟩
    case round =>
      obtain ⟨k, hk, rfl, hp, hbr⟩ := hrel
      by_cases hlt : k < L.length
      · obtain ⟨c0, c1, c2⟩ := rdAc_at hcells.out hb hbr.out hlt
        have hY := hasF_yes (f := f) hlt
        have hN : L[k].feed ≠ f → ∀ j (hj : j < L.length), j < k + 1 → L[j].feed ≠ f := fun q j hj hjk => by
          by_cases e : j = k
          · subst e; exact q
          · exact hp.out j hj (by omega)
        obtain ⟨e, he⟩ : ∃ e, L[k] = e := ⟨_, rfl⟩
        rw [he] at c0 c1 c2 hY hN
        obtain ⟨xn, xf, xs⟩ := e
        simp only at c0 c1 c2 hY hN
        have hjj : (k : Int) < (L.length : Int) := by omega
        have hkk0 : (0 : Int) ≤ (k : Int) := by omega
        obtain ⟨w1, hw1⟩ : ∃ w1, wr.alloc (.cells #[.string xn, .string xf, .int .i64 xs] 33) = w1 := ⟨_, rfl⟩
        have hB1 : Hid (Below w.heap.size w w1) := Lib.hid (by rw [← hw1]; exact hbr.out.alloc hbr.out.size _)
        obtain ⟨y0, y1, y2⟩ := row3 hw1 (Below.refl _ _)
        clear he
        by_cases hn : xf = f
        · have HR := Lib.hid (hY hn)
          have q := str_same hn
          clear hn hY hN
          go_wp2
          go_ret
          exact ⟨ret_bool HR.out.symm, hB1.out⟩
        · have HN := Lib.hid (hN hn)
          have q := str_other hn
          clear hn hY hN
          go_wp2
          go_roundw
          case rel => exact ⟨k + 1, by omega, by go_num, HN, hB1⟩
          case measure => simp [intOf]; omega
      · have HR := Lib.hid (hasF_no (L := L) (f := f) (fun j hj => hp.out j hj (by omega)))
        go_wp2
        go_ret
        exact ⟨ret_bool HR.out.symm, hbr.out⟩
set_option maxRecDepth 100000 in
set_option maxHeartbeats 2000000 in
theorem acI_place (v : Value) (L : List Ac) (name feed : ByteArray) (sign : Int) (w : World) (h : RdG encAc w v L) :
    Calls Try.prog 54 #[v, .string name] w (GotInt (plc acL L ⟨name, feed, sign⟩) w) := by
  by_cases hL : L = []
  · subst hL
    obtain ⟨A, c, rfl, hc⟩ := h.nil
    have hd : decide ((0 : Int) < (([] : List Ac).length : Int)) = false := by simp
    go_enter Try.func54, Try.ntmps54
    go_wp2
    refine wp_loop_rounds 1 ?_
    rw [rounds_succ]
    go_wp2
    go_ret
    exact ⟨rfl, Below.refl _ _⟩
  · obtain ⟨b, o, c, rfl, h1, h2, hb, h4⟩ := h.some hL
    unfold maxLen at h2
    have hcells := Lib.hid (fun k (hk : k < L.length) => rdAc_cells h4 hk)
    have hpl0 := plc_le acL L ⟨name, feed, sign⟩
    clear h4 hL
    go_enter Try.func54, Try.ntmps54
    go_wp2
    go_loopw [5] (fun i wr => ∃ p : Nat, p ≤ plc acL L ⟨name, feed, sign⟩ ∧ i = .int .i64 p ∧ Hid (Below w.heap.size w wr)) (fun i _ => L.length - (intOf i).toNat)
    case atStart => exact ⟨0, Nat.zero_le _, rfl, Lib.hid (Below.refl _ _)⟩
    case round =>
      obtain ⟨p, hp, rfl, hbr⟩ := hrel
      have hj0 : (0 : Int) ≤ (p : Int) := by omega
      by_cases hlt : p < L.length
      · obtain ⟨d0, d1, d2⟩ := rdAc_at hcells.out hb hbr.out hlt
        have hjj : (p : Int) < (L.length : Int) := by omega
        have HT : acL L[p] ⟨name, feed, sign⟩ = true → p < plc acL L ⟨name, feed, sign⟩ := fun q => by
          by_cases r : p < plc acL L ⟨name, feed, sign⟩
          · exact r
          · have e : p = plc acL L ⟨name, feed, sign⟩ := by omega
            have := plc_ge (lt := acL) (L := L) (a := ⟨name, feed, sign⟩) (by omega)
            subst e; rw [this] at q; cases q
        have HF : acL L[p] ⟨name, feed, sign⟩ = false → plc acL L ⟨name, feed, sign⟩ = p := fun q => by
          by_cases r : p < plc acL L ⟨name, feed, sign⟩
          · rw [plc_lt r] at q; cases q
          · omega
        obtain ⟨x, hx⟩ : ∃ x, L[p] = x := ⟨_, rfl⟩
        obtain ⟨xn, xf, xs⟩ := x
        rw [hx] at d0 d1 d2 HT HF
        simp only at d0 d1 d2
        clear hx
        rcases hle : acL ⟨xn, xf, xs⟩ ⟨name, feed, sign⟩ with _ | _
        · have HR : Hid ((plc acL L ⟨name, feed, sign⟩ : Nat) = p) := Lib.hid (HF hle)
          have hle := acL_lt hle
          simp only at hle
          clear HT HF hp hpl0
          go_wp2
          go_ret
          exact ⟨by rw [HR.out]; rfl, hbr.out⟩
        · have HR := HT hle
          have hle := acL_lt hle
          simp only at hle
          clear HT HF hp
          go_wp2
          go_roundw
          case rel => exact ⟨p + 1, by omega, by go_num, hbr⟩
          case measure => simp [intOf]; omega
      · have hd : decide ((p : Int) < (L.length : Int)) = false := decide_eq_false (by omega)
        have HR : Hid ((plc acL L ⟨name, feed, sign⟩ : Nat) = p) := Lib.hid (by omega)
        clear hp hpl0
        go_wp2
        go_ret
        exact ⟨by rw [HR.out]; rfl, hbr.out⟩
set_option maxRecDepth 100000 in
set_option maxHeartbeats 4000000 in
theorem acI_valid (v : Value) (L : List Ac) (w : World) (h : RdG encAc w v L) (hf : FitAcs L) :
    Calls Try.prog 22 #[v] w (GotB (acsB L) w) := by
  by_cases h8 : 8 < L.length
  · have hL : L ≠ [] := by intro e; rw [e] at h8; simp at h8
    obtain ⟨b, o, c, rfl, h1, h2, hb, h4⟩ := h.some hL
    unfold maxLen at h2
    have HR := Lib.hid (acsB_len h8)
    have h8' : decide ((8 : Int) < (L.length : Int)) = true := decide_eq_true (by omega)
    clear h4 hL
    go_enter Try.func22, Try.ntmps22
    go_wp2
    go_ret
    exact ⟨ret_bool HR.out.symm, Below.refl _ _⟩
  by_cases hL : L = []
  · subst hL
    obtain ⟨A, c, rfl, hc⟩ := h.nil
    go_enter Try.func22, Try.ntmps22
    go_wp2
    refine wp_loop_rounds 1 ?_
    rw [rounds_succ]; go_wp2
    go_ret
    exact ⟨rfl, Below.refl _ _⟩
  · have hrd := h
    obtain ⟨b, o, c, rfl, h1, h2, hb, h4⟩ := h.some hL
    have h2' := Lib.hid h2
    unfold maxLen at h2
    have hcells := Lib.hid (fun k (hk : k < L.length) => rdAc_cells h4 hk)
    have hrd := Lib.hid hrd
    have h8' : decide ((8 : Int) < (L.length : Int)) = false := decide_eq_false (by omega)
    clear h4 hL h
    go_enter Try.func22, Try.ntmps22
    go_wp2
    go_loopw [10] (fun i wr => ∃ k : Nat, k ≤ L.length ∧ i = .int .i64 k ∧ Hid (PreA L k) ∧ Hid (Below w.heap.size w wr)) (fun i _ => L.length - (intOf i).toNat)
    case atStart => exact ⟨0, Nat.zero_le _, rfl, Lib.hid (preA_zero L), Lib.hid (Below.refl _ _)⟩
    case round =>
      obtain ⟨k, hk, rfl, hp, hbr⟩ := hrel
      by_cases hlt : k < L.length
      · obtain ⟨c0, c1, c2⟩ := rdAc_at hcells.out hb hbr.out hlt
        have hfi := hf _ (List.getElem_mem hlt)
        have hbad := fun q => acsB_item (L := L) hlt q
        have hnext := fun q r d => preA_next (L := L) hlt hp.out q r d
        have htw := fun j hj e => acsB_feed (L := L) (j := j) hj hlt e
        have hasc := fun h0 q => acsB_asc (L := L) (k := k) h0 hlt q
        obtain ⟨e, he⟩ : ∃ e, L[k] = e := ⟨_, rfl⟩
        rw [he] at c0 c1 c2 hfi hbad hnext htw hasc
        obtain ⟨name, feed, sign⟩ := e
        simp only at c0 c1 c2 htw hnext
        have hjj : (k : Int) < (L.length : Int) := by omega
        have hkk0 : (0 : Int) ≤ (k : Int) := by omega
        have hkc : k ≤ c := by omega
        have hkc' : (k : Int) ≤ (c : Int) := by omega
        obtain ⟨w1, hw1⟩ : ∃ w1, wr.alloc (.cells #[.string name, .string feed, .int .i64 sign] 33) = w1 := ⟨_, rfl⟩
        have hb1 : Below wr.heap.size wr w1 := by rw [← hw1]; exact (Below.refl _ _).alloc (Nat.le_refl _) _
        have hB1 := Lib.hid (below_trans' hbr.out hb1)
        have hrow := Lib.hid (fun wX (hX : Below w1.heap.size w1 wX) => row3 hw1 hX)
        obtain ⟨y0, y1, y2⟩ := hrow.out w1 (Below.refl _ _)
        have HX := Lib.hid hnext
        have HA := Lib.hid hasc
        have he := Lib.hid he
        have hbad := Lib.hid hbad
        have hcall : Hid (∀ wz, Below w1.heap.size w1 wz → Calls Try.prog 51 #[.slice (some ⟨b, o, none⟩) k c, .string feed] wz (GotB (hasF (L.take k) feed) wz)) := Lib.hid (fun wz hz =>
          acI_feed _ _ _ _ (rdG_take encAc_len ((hrd.out.below hB1.out).below hz) k hk c hkc h2'.out))
        have hT : Hid (hasF (L.take k) feed = true → acsB L = false) := Lib.hid (fun q => by
          obtain ⟨j, hj, e⟩ := hasF_had q
          rw [List.length_take] at hj
          rw [List.getElem_take] at e
          exact htw j (by omega) e)
        have hD : Hid (hasF (L.take k) feed = false → ∀ j (hj : j < k), (L[j]'(by omega)).feed ≠ feed) := Lib.hid (fun q j hj => by
          have := hasF_not q j (by rw [List.length_take]; omega)
          rwa [List.getElem_take] at this)
        clear hnext htw hasc hb1
        go_wp2_with fail
        have hw1 := Lib.hid hw1
        rcases hi : acB ⟨name, feed, sign⟩ with _ | _
        · have HR := Lib.hid (hbad.out hi)
          have hi := Lib.hid hi
          first | go_region_with (go_at_call 50; refine (acI_one name feed sign _ hfi).mono ?_; rintro e w3 ⟨rfl, hb3⟩; rw [hi.out]; have hE : Hid (Below w1.heap.size w1 w3) := Lib.hid (below_trans' (Below.drew (Below.refl _ _)) hb3); clear hb3) | fail
          all_goals
            go_wp2
            go_ret
            exact ⟨ret_bool HR.out.symm, below_trans' hB1.out hE.out⟩
        · have HG := Lib.hid hi
          have hi := Lib.hid hi
          rcases hh : hasF (L.take k) feed with _ | _
          all_goals
            have hhh := Lib.hid hh
            clear hh
            go_region_held3 (fun w' => w'.cell? ⟨wr.heap.size, 0, none⟩ = some (.string name) ∧ w'.cell? ⟨wr.heap.size, 1, none⟩ = some (.string feed) ∧ w'.cell? ⟨wr.heap.size, 2, none⟩ = some (.int .i64 sign) ∧ Hid (Below w1.heap.size w1 w'))
              (first | exact ⟨y0, y1, y2, Lib.hid (Below.drew (Below.refl _ _))⟩ | exact hS4.out | exact hS3.out)
              (first
                | (go_at_call 50; ((refine (acI_one name feed sign _ hfi).mono ?_); rintro e w3 ⟨rfl, hb3⟩; rw [hi.out]; have hS3 : Hid (w3.cell? ⟨wr.heap.size, 0, none⟩ = some (.string name) ∧ w3.cell? ⟨wr.heap.size, 1, none⟩ = some (.string feed) ∧ w3.cell? ⟨wr.heap.size, 2, none⟩ = some (.int .i64 sign) ∧ Hid (Below w1.heap.size w1 w3)) := Lib.hid (by obtain ⟨z0, z1, z2⟩ := hrow.out w3 (below_trans' (Below.drew (Below.refl _ _)) hb3); exact ⟨z0, z1, z2, Lib.hid (below_trans' (Below.drew (Below.refl _ _)) hb3)⟩); clear hb3))
                | (go_at_call 51; ((refine (hcall.out _ (by obtain ⟨_, _, _, q⟩ := hS3.out; exact q.out)).mono ?_); rintro e w4 ⟨rfl, hb4⟩; rw [hhh.out]; have hS4 : Hid (w4.cell? ⟨wr.heap.size, 0, none⟩ = some (.string name) ∧ w4.cell? ⟨wr.heap.size, 1, none⟩ = some (.string feed) ∧ w4.cell? ⟨wr.heap.size, 2, none⟩ = some (.int .i64 sign) ∧ Hid (Below w1.heap.size w1 w4)) := Lib.hid (by obtain ⟨_, _, _, q⟩ := hS3.out; obtain ⟨z0, z1, z2⟩ := hrow.out w4 (below_trans' q.out hb4); exact ⟨z0, z1, z2, Lib.hid (below_trans' q.out hb4)⟩); clear hb4)))
            go_split_ands
            rename Hid (Below w1.heap.size w1 _) => hE
            first
              | (have HR := Lib.hid (hT.out hhh.out)
                 go_wp2
                 go_ret
                 exact ⟨ret_bool HR.out.symm, below_trans' hB1.out hE.out⟩)
              | skip
          have HD := Lib.hid (hD.out hhh.out)
          clear hhh hcall hT hD
          rcases k with _ | p
          · have g0 : decide ((0 : Int) < 0) = false := rfl
            have HN : Hid (PreA L (0 + 1)) := Lib.hid (HX.out HG.out (fun h0 => absurd h0 (by omega)) HD.out)
            have hEE := Lib.hid (below_trans' hB1.out hE.out)
            go_wp2_with fail
            go_quiet (fail)
            go_wp2
            go_roundw
            case rel => exact ⟨0 + 1, by omega, by go_num, HN, Lib.hid (Below.drawn hEE.out _)⟩
            case measure => simp [intOf]; omega
          · have hEE := Lib.hid (below_trans' hB1.out hE.out)
            obtain ⟨d0, d1, d2⟩ := rdAc_at hcells.out hb hEE.out (k := p) (by omega)
            have HA' := HA.out (by omega)
            simp only [Nat.add_sub_cancel] at HA'
            have HX' := Lib.hid (fun (q : acL (L[p]'(by omega)) ⟨name, feed, sign⟩ = true) => HX.out HG.out (fun _ => by simpa using q) HD.out)
            obtain ⟨x, hx⟩ : ∃ x, L[p]'(by omega) = x := ⟨_, rfl⟩
            obtain ⟨xn, xf, xs⟩ := x
            rw [hx] at d0 d1 d2 HA' HX'
            simp only at d0 d1 d2
            have g0 : decide (0 < p + 1) = true := by simp
            have iw := IntWalk.i64_in (p : Int) (by omega)
            have g1 : (p : Int) < (L.length : Int) := by omega
            have g2 : (0 : Int) ≤ (p : Int) := by omega
            rcases hle : acL ⟨xn, xf, xs⟩ ⟨name, feed, sign⟩ with _ | _
            · have HR := Lib.hid (HA' hle)
              have hleq := acL_lt hle
              simp only at hleq
              clear hle HA' HX' hx
              go_wp2_with fail
              go_quiet (fail)
              go_wp2
              go_ret
              exact ⟨ret_bool HR.out.symm, Below.drawn hEE.out _⟩
            · have hleq := acL_lt hle
              simp only at hleq
              have HN : Hid (PreA L (p + 1 + 1)) := Lib.hid (HX'.out hle)
              clear hle HA' hx HX'
              go_wp2_with fail
              go_quiet (fail)
              go_wp2
              go_roundw
              case rel => exact ⟨(p + 1) + 1, by omega, by go_num, HN, Lib.hid (Below.drawn hEE.out _)⟩
              case measure => simp [intOf]; omega
      · have HR := Lib.hid (preA_end (L := L) (k := k) (by omega) hp.out)
        have h8'' : decide ((L.length : Int) ≤ 8) = true := decide_eq_true (by omega)
        go_wp2
        go_ret
        exact ⟨ret_bool (by rw [← HR.out, h8'']), hbr.out⟩
end Go.Proofs.Ytacapigdfabiiaa
