/-
  The verifier's own text: FeedMath FeedWM FeedS FeedWS OwnS FeedLS RowG SliceG.
-/
import Derived.Test.YtbljpbmpfmnemaaRows
import Derived.Test.YtbljpbmpfmnemaaGn
import Derived.Test.YtbljpbmpfmnemaaGo
import Derived.Test.YtbljpbmpfmnemaaGb
import Derived.Test.YtbljpbmpfmnemaaGa
import Derived.WalkKit
import Derived.ProofKit
import Derived.Below
import Derived.Lib.Hide
import Derived.Outline
import Derived.BigQuiet
import Derived.Deep.QuietTactic
import Derived.Deep.Draws
import Derived.Laws.OwnMore
import Derived.Laws.Rows
import Derived.WalkSpells
import Derived.Deep.RegionWith
namespace Go.Proofs.Ytbljpbmpfmnemaa
open Go.RowKit
set_option linter.unusedVariables false
/-- a feed: at most eight items, all valid, with different keys -/
def fdB (L : List It) : Bool := decide (L.length ≤ 8) && L.all itB && decide ((L.map It.key).Nodup)
theorem fdB_of {L : List It} (h : fdB L = true) : L.length ≤ 8 ∧ (∀ i ∈ L, itB i = true) ∧ (L.map It.key).Nodup := by
  unfold fdB at h; simp only [Bool.and_eq_true, decide_eq_true_eq, List.all_eq_true] at h; exact ⟨h.1.1, h.1.2, h.2⟩
theorem fdB_mk {L : List It} (a : L.length ≤ 8) (b : ∀ i ∈ L, itB i = true) (c : (L.map It.key).Nodup) : fdB L = true := by
  unfold fdB; simp only [Bool.and_eq_true, decide_eq_true_eq, List.all_eq_true]; exact ⟨⟨a, b⟩, c⟩
theorem fdB_item {L : List It} {k : Nat} (h : k < L.length) (b : itB L[k] = false) : fdB L = false := by
  rcases q : fdB L with _ | _
  · rfl
  · have := (fdB_of q).2.1 _ (List.getElem_mem h); rw [b] at this; cases this
theorem fdB_twice {L : List It} {j k : Nat} (hj : j < k) (h : k < L.length) (e : L[j].key = L[k].key) : fdB L = false := by
  rcases q : fdB L with _ | _
  · rfl
  · have hn := (fdB_of q).2.2
    have := (List.pairwise_iff_getElem.1 hn) j k (by rw [List.length_map]; omega) (by rw [List.length_map]; omega) hj
    rw [List.getElem_map, List.getElem_map] at this
    exact absurd e this
/-- the first k are well -/
def PreF (L : List It) (k : Nat) : Prop := (∀ i ∈ L.take k, itB i = true) ∧ ((L.take k).map It.key).Nodup
theorem preF_zero (L : List It) : PreF L 0 := ⟨by simp, by simp⟩
theorem preF_next {L : List It} {k : Nat} (h : k < L.length) (p : PreF L k) (b : itB L[k] = true) (d : ∀ j (hj : j < k), (L[j]'(by omega)).key ≠ L[k].key) : PreF L (k + 1) := by
  have e : L.take (k + 1) = L.take k ++ [L[k]] := List.take_succ_eq_append_getElem h
  refine ⟨fun i m => ?_, ?_⟩
  · rw [e] at m
    rcases List.mem_append.1 m with m | m
    · exact p.1 i m
    · have : i = L[k] := by simpa using m
      rw [this]; exact b
  · rw [e, List.map_append, List.nodup_append]
    refine ⟨p.2, by simp, fun a ha c hc => ?_⟩
    have hc' : c = L[k].key := by simpa using hc
    obtain ⟨i, hi, rfl⟩ := List.mem_map.1 ha
    obtain ⟨j, hj, rfl⟩ := List.getElem_of_mem hi
    have hjk : j < k := by rw [List.length_take] at hj; omega
    rw [List.getElem_take, hc']
    exact d j hjk
theorem preF_end {L : List It} {k : Nat} (h : L.length ≤ k) (p : PreF L k) : decide ((L.length : Int) ≤ 8) = fdB L := by
  unfold PreF at p
  rw [List.take_of_length_le h] at p
  by_cases a : L.length ≤ 8
  · rw [fdB_mk a p.1 p.2]; exact decide_eq_true (by omega)
  · rcases q : fdB L with _ | _
    · exact decide_eq_false (by omega)
    · exact absurd (fdB_of q).1 a
/-- the first item with a key -/
def itW1 : List It → ByteArray → It × Bool
  | [], _ => (It.zero, false)
  | i :: L, n => if i.key = n then (i, true) else itW1 L n
def itW (L : List It) (n : ByteArray) : It × Bool := if fdB L then itW1 L n else (It.zero, false)
theorem itW_in {L : List It} (n : ByteArray) (h : fdB L = true) : itW L n = itW1 L n := by simp [itW, h]
theorem itW_out {L : List It} (n : ByteArray) (h : fdB L = false) : itW L n = (It.zero, false) := by simp [itW, h]
theorem itW1_at {L : List It} {n : ByteArray} {k : Nat} (hk : k < L.length) (h : ∀ i (hi : i < L.length), i < k → L[i].key ≠ n) (e : L[k].key = n) : itW1 L n = (L[k], true) := by
  induction L generalizing k with
  | nil => simp at hk
  | cons a L ih =>
    cases k with
    | zero => simp only [List.getElem_cons_zero] at e ⊢; simp [itW1, e]
    | succ k =>
      have h0 : a.key ≠ n := h 0 (by simp) (by omega)
      simp only [itW1, h0, if_false]
      have := ih (k := k) (by simpa using hk) (fun i hi hik => by have := h (i + 1) (by simpa using hi) (by omega); simpa using this) (by simpa using e)
      rw [this]; rfl
theorem itW1_none {L : List It} {n : ByteArray} (h : ∀ i (hi : i < L.length), L[i].key ≠ n) : itW1 L n = (It.zero, false) := by
  induction L with
  | nil => rfl
  | cons a L ih =>
    have h0 : a.key ≠ n := h 0 (by simp)
    simp only [itW1, h0, if_false]
    exact ih (fun i hi => by have := h (i + 1) (by simpa using hi); simpa using this)
/-- the cells of an item -/
def encI (i : It) : List Value := [.string i.key, .string i.title, .string i.body, .int .i64 i.day]
theorem encI_len (i : It) : (encI i).length = 4 := rfl
def FitF (L : List It) : Prop := ∀ i ∈ L, FitI i
theorem rdI_cells {w : World} {b o : Nat} {L : List It} (h : ∀ j u, (L.flatMap encI)[j]? = some u → w.cell? ⟨b, o + j, none⟩ = some u) {k : Nat} (hk : k < L.length) :
    w.cell? ⟨b, o + k * 4, none⟩ = some (.string L[k].key) ∧ w.cell? ⟨b, o + k * 4 + 1, none⟩ = some (.string L[k].title) ∧ w.cell? ⟨b, o + k * 4 + 2, none⟩ = some (.string L[k].body) ∧ w.cell? ⟨b, o + k * 4 + 3, none⟩ = some (.int .i64 L[k].day) := by
  refine ⟨?_, ?_, ?_, ?_⟩
  · exact h (k * 4) _ (flat_get encI_len L k hk 0 (by omega))
  · have := h (k * 4 + 1) _ (flat_get encI_len L k hk 1 (by omega)); rw [← Nat.add_assoc] at this; exact this
  · have := h (k * 4 + 2) _ (flat_get encI_len L k hk 2 (by omega)); rw [← Nat.add_assoc] at this; exact this
  · have := h (k * 4 + 3) _ (flat_get encI_len L k hk 3 (by omega)); rw [← Nat.add_assoc] at this; exact this
theorem rdI_at {w wr : World} {b o : Nat} {L : List It} (h : ∀ k (hk : k < L.length), w.cell? ⟨b, o + k * 4, none⟩ = some (.string L[k].key) ∧ w.cell? ⟨b, o + k * 4 + 1, none⟩ = some (.string L[k].title) ∧ w.cell? ⟨b, o + k * 4 + 2, none⟩ = some (.string L[k].body) ∧ w.cell? ⟨b, o + k * 4 + 3, none⟩ = some (.int .i64 L[k].day)) (hb : b < w.heap.size) (hB : Below w.heap.size w wr) {k : Nat} (hk : k < L.length) :
    wr.cell? ⟨b, o + k * 4, none⟩ = some (.string L[k].key) ∧ wr.cell? ⟨b, o + k * 4 + 1, none⟩ = some (.string L[k].title) ∧ wr.cell? ⟨b, o + k * 4 + 2, none⟩ = some (.string L[k].body) ∧ wr.cell? ⟨b, o + k * 4 + 3, none⟩ = some (.int .i64 L[k].day) := by
  obtain ⟨a, c, d, e⟩ := h k hk
  exact ⟨by rw [hB.cell (p := ⟨b, o + k * 4, none⟩) hb]; exact a, by rw [hB.cell (p := ⟨b, o + k * 4 + 1, none⟩) hb]; exact c, by rw [hB.cell (p := ⟨b, o + k * 4 + 2, none⟩) hb]; exact d, by rw [hB.cell (p := ⟨b, o + k * 4 + 3, none⟩) hb]; exact e⟩
set_option maxRecDepth 100000 in
set_option maxHeartbeats 4000000 in
theorem fdS_valid (v : Value) (L : List It) (w : World) (h : RdG encI w v L) (hf : FitF L) :
    Calls Try.prog 43 #[v] w (GotB (fdB L) w) := by
  by_cases hL : L = []
  · subst hL
    obtain ⟨A, c, rfl, hc⟩ := h.nil
    go_enter Try.func43, Try.ntmps43
    go_wp2
    refine wp_loop_rounds 1 ?_
    rw [rounds_succ]; go_wp2
    go_ret
    exact ⟨rfl, Below.refl _ _⟩
  · obtain ⟨b, o, c, rfl, h1, h2, hb, h4⟩ := h.some hL
    unfold maxLen at h2
    have hcells := Lib.hid (fun k (hk : k < L.length) => rdI_cells h4 hk)
    clear h4 hL
    go_enter Try.func43, Try.ntmps43
    go_wp2
    go_loopw [3, 4] (fun i jj wr => ∃ k : Nat, k ≤ L.length ∧ i = .int .i64 k ∧ Hid (PreF L k) ∧ Hid (Below w.heap.size w wr)) (fun i _ _ => L.length - (intOf i).toNat)
    case atStart => exact ⟨0, Nat.zero_le _, rfl, Lib.hid (preF_zero L), Lib.hid (Below.refl _ _)⟩
    case round =>
      obtain ⟨k, hk, rfl, hp, hbr⟩ := hrel
      by_cases hlt : k < L.length
      · obtain ⟨c0, c1, c2, c3⟩ := rdI_at hcells.out hb hbr.out hlt
        have hfi := hf _ (List.getElem_mem hlt)
        have hbad := fun q => fdB_item (L := L) hlt q
        have hnext := fun q d => preF_next (L := L) hlt hp.out q d
        have htw := fun j hj e => fdB_twice (L := L) (j := j) hj hlt e
        obtain ⟨e, he⟩ : ∃ e, L[k] = e := ⟨_, rfl⟩
        rw [he] at c0 c1 c2 c3 hfi hbad hnext htw
        obtain ⟨ky, ti, bo, da⟩ := e
        simp only at c0 c1 c2 c3
        have hjj : (k : Int) < (L.length : Int) := by omega
        have hkk0 : (0 : Int) ≤ (k : Int) := by omega
        have HX := Lib.hid hnext
        have HT := Lib.hid htw
        have he := Lib.hid he
        clear hnext htw
        go_wp2_with fail
        refine (itS_valid ky ti bo da _ hfi).mono ?_
        rintro e w3 ⟨rfl, hb3⟩
        have hB3 := Lib.hid (below_trans' hbr.out hb3)
        clear hb3
        rcases hi : itB ⟨ky, ti, bo, da⟩ with _ | _
        · have HR := Lib.hid (hbad hi)
          clear hi hbad
          go_wp2
          go_ret
          exact ⟨ret_bool HR.out.symm, hB3.out⟩
        · have HI := Lib.hid hi
          clear hi hbad c0 c1 c2 c3
          go_wp2
          obtain ⟨wo, rfl⟩ : ∃ wo : World, wo = wr := ⟨_, rfl⟩
          go_loopw [4] (fun jj wr => ∃ j : Nat, j ≤ k ∧ jj = .int .i64 j ∧ Hid (∀ i (hi : i < j) (hl : i < L.length), L[i].key ≠ ky) ∧ Hid (Below w.heap.size w wr)) (fun jj _ => k - (intOf jj).toNat)
          case atStart => exact ⟨0, Nat.zero_le _, rfl, Lib.hid (by intro i hi; omega), hB3⟩
          case round =>
            obtain ⟨j, hj, rfl, hq, hbi⟩ := hrel
            by_cases hjk : j < k
            · have hjl : j < L.length := by omega
              obtain ⟨d0, _, _, _⟩ := rdI_at hcells.out hb hbi.out hjl
              obtain ⟨c0, _, _, _⟩ := rdI_at hcells.out hb hbi.out hlt
              rw [he.out] at c0
              simp only at c0
              have hT2 := HT.out j hjk
              have hq2 : L[j].key ≠ ky → ∀ i (hi : i < j + 1) (hl : i < L.length), L[i].key ≠ ky := fun q i hi hl => by
                by_cases e : i = j
                · subst e; exact q
                · exact hq.out i (by omega) hl
              obtain ⟨x, hx⟩ : ∃ x, L[j].key = x := ⟨_, rfl⟩
              rw [hx] at d0 hT2 hq2
              have j0 : (0 : Int) ≤ (j : Int) := by omega
              have j1 : (j : Int) < (L.length : Int) := by omega
              have j2 : (j : Int) < (k : Int) := by omega
              clear hx
              by_cases hn : x = ky
              · have HR := Lib.hid (hT2 hn)
                have q := str_same hn
                clear hn hT2 hq2
                go_wp2
                go_quiet (fail)
                go_wp2
                go_ret
                exact ⟨ret_bool HR.out.symm, Below.drawn hbi.out _⟩
              · have HN := Lib.hid (hq2 hn)
                have q := str_other hn
                clear hn hT2 hq2
                go_wp2
                go_quiet (fail)
                go_wp2
                go_roundw
                case rel => exact ⟨j + 1, by omega, by go_num, HN, Lib.hid (Below.drawn hbi.out _)⟩
                case measure => simp [intOf]; omega
            · have hd : Hid (PreF L (k + 1)) := Lib.hid (HX.out HI.out (fun i hi => hq.out i (by omega) (by omega)))
              go_wp2
              go_roundw
              case rel => exact ⟨k + 1, by omega, by go_num, hd, hbi⟩
              case measure => simp [intOf]; omega
      · have hr := Lib.hid (preF_end (by omega) hp.out)
        go_wp2
        go_ret
        exact ⟨ret_bool hr.out, hbr.out⟩
/-- an item and whether there is one -/
def GotIW (p : It × Bool) (w : World) (e : Ending) (w' : World) : Prop := e = .returned (.tuple #[.agg #[.string p.1.key, .string p.1.title, .string p.1.body, .int .i64 p.1.day], .bool p.2]) ∧ Below w.heap.size w w'
set_option maxRecDepth 100000 in
set_option maxHeartbeats 4000000 in
theorem fdS_with (v : Value) (L : List It) (n : ByteArray) (w : World) (h : RdG encI w v L) (hf : FitF L) :
    Calls Try.prog 50 #[v, .string n] w (GotIW (itW L n) w) := by
  obtain ⟨w1, hw1⟩ : ∃ w1, w.alloc (.cells #[.string ⟨#[]⟩, .string ⟨#[]⟩, .string ⟨#[]⟩, .int .i64 0] 30) = w1 := ⟨_, rfl⟩
  have hb01 : Below w.heap.size w w1 := by rw [← hw1]; exact (Below.refl _ _).alloc (Nat.le_refl _) _
  have hrd1 := h.below hb01
  have hfin : ∀ wX, Below w1.heap.size w1 wX → (wX.cell? ⟨w.heap.size, 0, none⟩ = some (.string ⟨#[]⟩) ∧ wX.cell? ⟨w.heap.size, 1, none⟩ = some (.string ⟨#[]⟩) ∧ wX.cell? ⟨w.heap.size, 2, none⟩ = some (.string ⟨#[]⟩) ∧ wX.cell? ⟨w.heap.size, 3, none⟩ = some (.int .i64 0) ∧ (∀ j, wX.frozen? ⟨w.heap.size, j, none⟩ = false) ∧ Below w.heap.size w wX) := fun wX hX => zeroI hw1 hX
  have hfin := Lib.hid hfin
  clear hb01 h
  by_cases hL : L = []
  · subst hL
    obtain ⟨A, c, rfl, hc⟩ := hrd1.nil
    obtain ⟨z0, z1, z2, z3, zf, hbw⟩ := hfin.out w1 (Below.refl _ _)
    have HBw := Lib.hid hbw
    have HR : Hid (itW [] n = (It.zero, false)) := Lib.hid (by unfold itW; split <;> rfl)
    clear hbw
    go_enter Try.func50, Try.ntmps50
    go_wp2
    refine wp_loop_rounds 1 ?_
    rw [rounds_succ]; go_wp2
    refine bodyPost_ret (v := .tuple #[.agg #[.string ⟨#[]⟩, .string ⟨#[]⟩, .string ⟨#[]⟩, .int .i64 0], .bool false]) (by simp [results, Try.results50, go_sem, z0, z1, z2, z3]) rfl ⟨by rw [HR.out]; rfl, ?_⟩
    exact (((HBw.out.setCell (Nat.le_refl _) _).setCell (Nat.le_refl _) _).setCell (Nat.le_refl _) _).setCell (Nat.le_refl _) _
  · have hpos : 0 < L.length := List.length_pos_iff.2 hL
    obtain ⟨b, o, c, rfl, h1, h2, hb, h4⟩ := hrd1.some hL
    unfold maxLen at h2
    have hcells := Lib.hid (fun k (hk : k < L.length) => rdI_cells h4 hk)
    have hrd1 := Lib.hid hrd1
    clear h4 hL
    go_enter Try.func50, Try.ntmps50
    go_wp2
    have hw1 := Lib.hid hw1
    go_loopw [6] (fun i wr => ∃ k : Nat, k ≤ L.length ∧ i = .int .i64 k ∧ Hid ((k = 0 ∨ fdB L = true) ∧ ∀ i (hi : i < L.length), i < k → L[i].key ≠ n) ∧ Hid (Below w1.heap.size w1 wr)) (fun i _ => L.length - (intOf i).toNat)
    case atStart => exact ⟨0, Nat.zero_le _, rfl, Lib.hid ⟨.inl rfl, by intro i hi h; omega⟩, Lib.hid (Below.refl _ _)⟩
    case round =>
      obtain ⟨k, hk, rfl, hp, hbr⟩ := hrel
      by_cases hlt : k < L.length
      · have hrdr := hrd1.out.below hbr.out
        go_wp2_with fail
        refine (fdS_valid _ L _ hrdr hf).mono ?_
        rintro e w3 ⟨rfl, hb3⟩
        have hB3 := Lib.hid (below_trans' hbr.out hb3)
        clear hb3 hrdr
        obtain ⟨z0, z1, z2, z3, zf, hbw⟩ := hfin.out w3 hB3.out
        have HBw := Lib.hid hbw
        clear hbw
        rcases hF : fdB L with _ | _
        · have HR := Lib.hid (itW_out n hF)
          clear hF
          go_wp2
          refine bodyPost_ret (v := .tuple #[.agg #[.string ⟨#[]⟩, .string ⟨#[]⟩, .string ⟨#[]⟩, .int .i64 0], .bool false]) (by simp [results, Try.results50, go_sem, z0, z1, z2, z3]) rfl ⟨by rw [HR.out]; rfl, ?_⟩
          exact (((HBw.out.setCell (Nat.le_refl _) _).setCell (Nat.le_refl _) _).setCell (Nat.le_refl _) _).setCell (Nat.le_refl _) _
        · obtain ⟨c0, c1, c2, c3⟩ := rdI_at hcells.out hb hB3.out hlt
          have hat := fun q => itW1_at (n := n) hlt hp.out.2 q
          have hno : L[k].key ≠ n → ∀ i (hi : i < L.length), i < k + 1 → L[i].key ≠ n := fun q i hi hik => by
            by_cases e : i = k
            · subst e; exact q
            · exact hp.out.2 i hi (by omega)
          have HX := Lib.hid (itW_in n hF)
          have HF := Lib.hid hF
          obtain ⟨e, he⟩ : ∃ e, L[k] = e := ⟨_, rfl⟩
          rw [he] at c0 c1 c2 c3 hat hno
          obtain ⟨ky, ti, bo, da⟩ := e
          simp only at c0 c1 c2 c3 hat hno
          have hj0 : (0 : Int) ≤ (k : Int) := by omega
          have hjj : (k : Int) < (L.length : Int) := by omega
          clear hF
          by_cases hn : ky = n
          · have HR := Lib.hid (hat hn)
            have q := str_same hn
            clear hat hno he hn
            go_wp2
            refine bodyPost_ret (v := .tuple #[.agg #[.string ky, .string ti, .string bo, .int .i64 da], .bool true]) (by simp [results, Try.results50, go_sem, z0, z1, z2, z3]) rfl ⟨by rw [HX.out, HR.out], ?_⟩
            exact (((HBw.out.setCell (Nat.le_refl _) _).setCell (Nat.le_refl _) _).setCell (Nat.le_refl _) _).setCell (Nat.le_refl _) _
          · have HN : Hid ((k + 1 = 0 ∨ fdB L = true) ∧ ∀ i (hi : i < L.length), i < k + 1 → L[i].key ≠ n) := Lib.hid ⟨.inr HF.out, hno hn⟩
            have q := str_other hn
            clear hat hno he hn
            go_wp2
            go_roundw
            case rel => exact ⟨k + 1, by omega, by go_num, HN, hB3⟩
            case measure => simp [intOf]; omega
      · have hF : fdB L = true := by
          rcases hp.out.1 with h | h
          · omega
          · exact h
        have HR := Lib.hid ((itW_in n hF).trans (itW1_none (fun i hi => hp.out.2 i hi (by omega))))
        obtain ⟨z0, z1, z2, z3, zf, hbw⟩ := hfin.out wr hbr.out
        have HBw := Lib.hid hbw
        clear hbw hF
        go_wp2
        refine bodyPost_ret (v := .tuple #[.agg #[.string ⟨#[]⟩, .string ⟨#[]⟩, .string ⟨#[]⟩, .int .i64 0], .bool false]) (by simp [results, Try.results50, go_sem, z0, z1, z2, z3]) rfl ⟨by rw [HR.out]; rfl, ?_⟩
        exact (((HBw.out.setCell (Nat.le_refl _) _).setCell (Nat.le_refl _) _).setCell (Nat.le_refl _) _).setCell (Nat.le_refl _) _
/-- a list of texts in memory -/
def encS (s : ByteArray) : List Value := [.string s]
theorem encS_len (s : ByteArray) : (encS s).length = 1 := rfl
theorem encS_one (s : ByteArray) (u : Value) (h : u ∈ encS s) : u.oneCell' = true := by
  simp [encS] at h; subst h; rfl
theorem infoS : (Try.prog.info? 9).map (fun i => (i.zero, i.size, i.bytes)) = some (some (.string ⟨#[]⟩), 1, 16) := by kernel_rfl
def OwnS (w : World) (B : Nat) (v : Value) (L : List ByteArray) : Prop := OwnG 9 1 encS w B v L
theorem app_str {ops : Array Oper} {rest : List Oper} {o : Oper} {a : Act} {Q : Exit → Act → World → Prop} {w : World} (hgd : o.guard = none) (s x : Operand)
    (ho : o.op = .call { callee := .builtin .append, args := #[s, x], argTypes := #[37, 37] }) (B : Nat) (v : Value) (L : List ByteArray) (t : ByteArray) (hs : a.eval s = v)
    (hown : OwnS w B v L) (hB : B ≤ w.heap.size) (g : Nat) (hgz : w.heap.size = g) (hx : a.eval x = .slice (some ⟨g, 0, none⟩) 1 1) (hl : L.length ≤ 1073741824)
    (h : ∀ v' w', OwnS w' B v' (L ++ [t]) → w.grownBy w' v.ownBlock → wpList Try.prog ops Q rest (a.put o.dst v') w') : wpList Try.prog ops Q (o :: rest) a (w.alloc (.cells #[.string t] 9)) :=
  app_gen (enc := encS) hgd s x 37 ho 9 1 16 _ Try.underlying37 infoS rfl (by decide) (by decide) encS_len encS_one B v L t hs hown hB g hgz hx hl h
theorem ownS_empty (w : World) (B : Nat) (h : B ≤ w.heap.size) : OwnS (w.alloc (.cells #[] 9)) B (.slice (some ⟨w.heap.size, 0, none⟩) 0 0) [] := by
  have := World.ownsRow_lit (e := 9) (size := 1) (base := B) w #[] 0 h (by simp) rfl
  exact this
theorem OwnS.shape {w : World} {B : Nat} {v : Value} {L : List ByteArray} (h : OwnS w B v L) : ∃ A c, v = .slice A L.length c := by
  obtain ⟨A, c, hv, _⟩ := OwnG.rd h; exact ⟨A, c, hv⟩
theorem own_below {α : Type} {ty : TypeId} {size : Nat} {enc : α → List Value} {W w w' : World} {v : Value} {L : List α} (hown : OwnG ty size enc w W.heap.size v L) (hb : Below W.heap.size W w) (hg : w.grownBy w' v.ownBlock) : Below W.heap.size W w' :=
  hb.grown hg hb.size (fun k hk => hown.ge k hk)
def fdL (L : List It) : List ByteArray := if fdB L then L.map fun i => bs (itT i) else []
theorem fdL_in {L : List It} (h : fdB L = true) : fdL L = L.map fun i => bs (itT i) := by simp [fdL, h]
theorem fdL_out {L : List It} (h : fdB L = false) : fdL L = [] := by simp [fdL, h]
theorem map_take {α β : Type} (f : α → β) {L : List α} {k : Nat} (h : k < L.length) : (L.take (k + 1)).map f = (L.take k).map f ++ [f L[k]] := by
  rw [List.take_succ_eq_append_getElem h, List.map_append]; rfl
def GotLS (L : List ByteArray) (w : World) (e : Ending) (w' : World) : Prop := ∃ v : Value, e = .returned v ∧ OwnS w' w.heap.size v L ∧ Below w.heap.size w w'
theorem below_row {w w' : World} (h : Below w.heap.size w w') (row : Option Nat) : w.grownBy w' row := ⟨h.os, h.tape, h.output, h.size, fun b hb _ => h.block b hb⟩
theorem row_trans {a b c : World} {row : Option Nat} (h : a.grownBy b row) (k : Below b.heap.size b c) : a.grownBy c row := grown_trans h (below_row k row)
theorem row_set {a b : World} {g : Nat} (h : a.grownBy b (some g)) (o : Nat) (u : Value) : a.grownBy (b.setCell ⟨g, o, none⟩ u) (some g) := grown_trans h (only_setCell' b g o u)
theorem rdG_take {α : Type} {enc : α → List Value} {size : Nat} (he : ∀ x, (enc x).length = size) {w : World} {A : Option Addr} {n c : Nat} {L : List α} (h : RdG enc w (.slice A n c) L) (k : Nat) (hk : k ≤ L.length) (c' : Nat) (hc : k ≤ c') (hc' : c' ≤ maxLen) :
    RdG enc w (.slice A k c') (L.take k) := by
  obtain ⟨A', c2, hv, h1, h2, h3⟩ := h
  obtain ⟨rfl, rfl, rfl⟩ : A = A' ∧ n = L.length ∧ c = c2 := by simpa using hv
  have hl : (L.take k).length = k := by rw [List.length_take]; omega
  refine ⟨A, c', by rw [hl], by rw [hl]; exact hc, hc', ?_⟩
  rcases h3 with rfl | ⟨b, o, rfl, hb, h4⟩
  · exact .inl (by simp)
  · refine .inr ⟨b, o, rfl, hb, fun j u hj => h4 j u ?_⟩
    have h3 : L.flatMap enc = (L.take k).flatMap enc ++ (L.drop k).flatMap enc := by rw [← List.flatMap_append, List.take_append_drop]
    rw [h3, List.getElem?_append_left (List.getElem?_eq_some_iff.1 hj).1]; exact hj
/-- an empty rest, wherever it points -/
theorem rdG_none {α : Type} {enc : α → List Value} {w : World} {A : Option Addr} {c : Nat} {L : List α} (k : Nat) (hk : L.length ≤ k) (hc : c ≤ maxLen) : RdG enc w (.slice A 0 c) (L.drop k) := by
  rw [List.drop_of_length_le hk]
  exact ⟨A, c, by simp, by simp, hc, .inl rfl⟩
end Go.Proofs.Ytbljpbmpfmnemaa
