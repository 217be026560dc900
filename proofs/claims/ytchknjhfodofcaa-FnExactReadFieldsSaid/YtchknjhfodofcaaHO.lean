/-
  The verifier's own text: FlIm FlI0 FlI1 FlI.
-/
import Derived.Test.YtchknjhfodofcaaRows
import Derived.Test.YtchknjhfodofcaaHJ
import Derived.Test.YtchknjhfodofcaaHN
import Derived.Test.YtchknjhfodofcaaHK
import Derived.Test.YtchknjhfodofcaaHC
import Derived.Test.YtchknjhfodofcaaGc
import Derived.Test.YtchknjhfodofcaaNumI
import Derived.Test.YtchknjhfodofcaaMarkI
import Derived.Test.YtchknjhfodofcaaReadMarkI
import Derived.Laws.Cover1
import Derived.Deep.DeepCutAuto
import Derived.Deep.RegionLaw
import Derived.Deep.RegionHeld3
import Derived.WalkKit
import Derived.ProofKit
import Derived.Below
import Derived.Lib.Hide
import Derived.Outline
import Derived.BigQuiet
import Derived.Deep.QuietTactic
import Derived.Deep.Draws
import Derived.Laws.OwnMore
import Derived.Laws.Rows
import Derived.WalkSpells
import Derived.Deep.RegionWith
namespace Go.Proofs.Ytchknjhfodofcaa
open Go.RowKit
set_option linter.unusedVariables false
/-! Names among fields; the number of lesser names as a place; fields read pair by pair. -/
def hasB (L : List Fd) (name : ByteArray) : Bool := L.any fun a => decide (a.name = name)
theorem hasB_true {L : List Fd} {n : ByteArray} {k : Nat} (h : k < L.length) (e : L[k].name = n) : hasB L n = true := by
  unfold hasB; rw [List.any_eq_true]; exact ⟨_, List.getElem_mem h, by simpa using e⟩
theorem hasB_false {L : List Fd} {n : ByteArray} (e : ∀ k (h : k < L.length), L[k].name ≠ n) : hasB L n = false := by
  unfold hasB; rw [List.any_eq_false]
  intro a m
  obtain ⟨k, h, rfl⟩ := List.getElem_of_mem m
  simpa using e k h
theorem hasB_had {L : List Fd} {n : ByteArray} (e : hasB L n = true) : ∃ k, ∃ h : k < L.length, L[k].name = n := by
  unfold hasB at e; rw [List.any_eq_true] at e
  obtain ⟨a, m, q⟩ := e
  obtain ⟨k, h, rfl⟩ := List.getElem_of_mem m
  exact ⟨k, h, by simpa using q⟩
theorem hasB_not {L : List Fd} {n : ByteArray} (e : hasB L n = false) : ∀ k (h : k < L.length), L[k].name ≠ n := fun k h q => by
  rw [hasB_true h q] at e; cases e
/-- how many names come before -/
def rkF (L : List Fd) (n : ByteArray) : Nat := L.countP fun a => Op.bytesLess a.name.data.toList n.data.toList
theorem rk_next {L : List Fd} {n : ByteArray} {k : Nat} (h : k < L.length) : rkF (L.take (k + 1)) n = rkF (L.take k) n + (if Op.bytesLess L[k].name.data.toList n.data.toList = true then 1 else 0) := by
  unfold rkF
  rw [List.take_succ_eq_append_getElem h, List.countP_append, List.countP_singleton]
theorem rk_le (L : List Fd) (n : ByteArray) : rkF L n ≤ L.length := List.countP_le_length
theorem rk_yes {L : List Fd} {n : ByteArray} {k : Nat} (h : k < L.length) (b : Op.bytesLess L[k].name.data.toList n.data.toList = true) : rkF (L.take (k + 1)) n = rkF (L.take k) n + 1 := by rw [rk_next h, if_pos b]
theorem rk_no {L : List Fd} {n : ByteArray} {k : Nat} (h : k < L.length) (b : Op.bytesLess L[k].name.data.toList n.data.toList = false) : rkF (L.take (k + 1)) n = rkF (L.take k) n := by rw [rk_next h, if_neg (by rw [b]; simp)]; rfl
/-- in an ascending list the place is the number of lesser ones -/
theorem rk_asc {S : List Fd} (h : ascB flL S = true) {i : Nat} (hi : i < S.length) : rkF S S[i].name = i := by
  unfold rkF
  have e : S = S.take i ++ S.drop i := (List.take_append_drop i S).symm
  have h1 : (S.take i).countP (fun a => Op.bytesLess a.name.data.toList S[i].name.data.toList) = i := by
    rw [List.countP_eq_length.2, List.length_take]
    · omega
    · intro a m
      obtain ⟨j, hj, rfl⟩ := List.getElem_of_mem m
      rw [List.length_take] at hj
      rw [List.getElem_take]
      exact asc_get h (j := j) (k := i) (by omega) hi
  have h2 : (S.drop i).countP (fun a => Op.bytesLess a.name.data.toList S[i].name.data.toList) = 0 := by
    rw [List.countP_eq_zero]
    intro a m
    obtain ⟨j, hj, rfl⟩ := List.getElem_of_mem m
    rw [List.length_drop] at hj
    rw [List.getElem_drop]
    by_cases z : j = 0
    · subst z
      have := flL_ord.irr S[i]
      unfold flL at this
      simp only [Nat.add_zero]; rw [this]; simp
    · have := asc_get h (j := i) (k := i + j) (by omega) (by omega)
      unfold flL at this
      rw [(less_asymm this).1]; simp
  have key : (S.take i ++ S.drop i).countP (fun a => Op.bytesLess a.name.data.toList S[i].name.data.toList) = i := by
    rw [List.countP_append, h1, h2]; rfl
  rw [← e] at key; exact key
theorem rk_perm {L M : List Fd} (p : L.Perm M) (n : ByteArray) : rkF L n = rkF M n := p.countP_eq _
/-- each field of valid ones stands, sorted, at the number of lesser names -/
theorem rk_at {L : List Fd} (h : flsB L = true) {k : Nat} (hk : k < L.length) : ∃ hr : rkF L L[k].name < (soF L).length, (soF L)[rkF L L[k].name] = L[k] := by
  have m : L[k] ∈ soF L := by rw [soF_in h]; exact srG_mem.2 (List.getElem_mem hk)
  obtain ⟨i, hi, e⟩ := List.getElem_of_mem m
  have p : (soF L).Perm L := by rw [soF_in h]; exact srG_perm flL L
  have r : rkF L L[k].name = i := by rw [← rk_perm p, ← e, rk_asc (soF_asc L) hi]
  rw [r]
  exact ⟨hi, e⟩
theorem rk_lt {L : List Fd} (h : flsB L = true) {k : Nat} (hk : k < L.length) : rkF L L[k].name < L.length := by
  obtain ⟨hr, _⟩ := rk_at h hk
  rw [soF_len h] at hr; exact hr
/-- the first k stand at their places -/
def AtF (L M : List Fd) (k : Nat) : Prop := M.length = L.length ∧ ∀ j (_ : j < k) (hl : j < L.length), M[rkF L L[j].name]? = some L[j]
theorem atF_zero {L M : List Fd} (h : M.length = L.length) : AtF L M 0 := ⟨h, fun j hj => by omega⟩
theorem atF_next {L M : List Fd} {k : Nat} (h : flsB L = true) (hk : k < L.length) (a : AtF L M k) : AtF L (M.set (rkF L L[k].name) L[k]) (k + 1) := by
  obtain ⟨a1, a2⟩ := a
  refine ⟨by rw [List.length_set, a1], fun j hj hl => ?_⟩
  have hr := rk_lt h hk
  by_cases e : rkF L L[j].name = rkF L L[k].name
  · obtain ⟨q1, q2⟩ := rk_at h hk
    obtain ⟨q3, q4⟩ := rk_at h hl
    have : L[j] = L[k] := by
      rw [← q2, ← q4]; congr 1
    rw [this, List.getElem?_set_self (by omega)]
  · have hjk : j ≠ k := fun q => by subst q; exact e rfl
    rw [List.getElem?_set_ne (fun q => e q.symm), a2 j (by omega) hl]
theorem atF_end {L M : List Fd} {k : Nat} (h : flsB L = true) (hk : L.length ≤ k) (a : AtF L M k) : M = soF L := by
  obtain ⟨a1, a2⟩ := a
  have p : (soF L).Perm L := by rw [soF_in h]; exact srG_perm flL L
  apply List.ext_getElem
  · rw [a1, soF_len h]
  · intro i hi hi'
    have m : (soF L)[i] ∈ L := p.mem_iff.1 (List.getElem_mem hi')
    obtain ⟨j, hj, e⟩ := List.getElem_of_mem m
    have r : rkF L L[j].name = i := by rw [← rk_perm p, e, rk_asc (soF_asc L) hi']
    have q := a2 j (by omega) hj
    rw [r, e, List.getElem?_eq_getElem hi] at q
    exact Option.some.inj q
/-- M read, then r is left: s is the pairs of M, each with a semicolon behind it where more follows -/
inductive RdF : List UInt8 → List Fd → List UInt8 → Prop
  | start (s : List UInt8) : RdF s [] s
  | step {s r : List UInt8} {M : List Fd} {p a n m : List UInt8} (h : RdF s M r) (ne : r ≠ []) (c : CutC 59 r p a) (d : CutC 61 p n m) : RdF s (M ++ [⟨bs n, readM m⟩]) a
/-- valid fields of which M are read, the text being theirs -/
theorem rdF_text {L : List Fd} (h : ∀ a ∈ L, flB a = true) : ∀ {s r : List UInt8} {M : List Fd}, RdF s M r → s = ftT L → M = L.take M.length ∧ r = ftT (L.drop M.length) := by
  intro s r M q
  induction q with
  | start => intro e; simp [e]
  | @step r M p a n m q ne c d ih =>
    intro e
    obtain ⟨i1, i2⟩ := ih e
    have hlt : M.length < L.length := by
      apply Nat.lt_of_not_le
      intro z
      rw [List.drop_eq_nil_of_le z] at i2
      exact ne i2
    have hf := h _ (List.getElem_mem hlt)
    obtain ⟨f1, f2, f3⟩ := flB_of hf
    have hd : L.drop M.length = L[M.length] :: L.drop (M.length + 1) := List.drop_eq_getElem_cons hlt
    have hp : p = ftI L[M.length] ∧ a = ftT (L.drop (M.length + 1)) := by
      by_cases z : L.drop (M.length + 1) = []
      · rw [hd, z] at i2
        have i2 : r = ftI L[M.length] := i2
        rw [i2] at c
        rw [z]
        exact cutC_all (ftI_no59 hf) c
      · rw [hd, ftT_cons z] at i2
        rw [i2] at c
        exact cutC_app (ftI_no59 hf) c
    obtain ⟨p1, p2⟩ := hp
    rw [p1] at d
    unfold ftI at d
    obtain ⟨d1, d2⟩ := cutC_app (wd_no f1 61 (by decide)) d
    have e1 : (⟨bs n, readM m⟩ : Fd) = L[M.length] := by
      have := fdS_text hf
      rw [d1, d2]
      obtain ⟨q1, q2⟩ := tw_app (c := 61) (u := L[M.length].name.data.toList) (markT L[M.length].val) (wd_no f1 61 (by decide))
      unfold fdS ftI at this
      rw [q1, q2] at this
      exact this
    rw [e1, List.length_append, List.length_singleton]
    refine ⟨?_, p2⟩
    rw [List.take_succ_eq_append_getElem hlt, ← i1]
/-- read to the end (or up to six), its text the text: the fields of it -/
theorem rdF_yes {s r : List UInt8} {M : List Fd} (q : RdF s M r) (z : r = [] ∨ 6 ≤ M.length) (e : ftT (soF M) = s) : flR s = (M, true) := by
  obtain ⟨i1, i2⟩ := rdF_text (flsB_of (soF_valid M)).2.1 q e.symm
  by_cases h : flsB M = true
  · rw [List.take_of_length_le (by rw [soF_len h]; exact Nat.le_refl _)] at i1
    refine flR_of h (by rw [i1]; exact soF_asc M) (by rw [← i1] at e; exact e)
  · have h : flsB M = false := by simpa using h
    have h0 := soF_out h
    rw [h0] at i1
    have : M = [] := by simpa using i1
    subst this
    exact absurd h (by decide)
theorem rdF_no {s r : List UInt8} {M : List Fd} (q : RdF s M r) (z : r = [] ∨ 6 ≤ M.length) (e : ftT (soF M) ≠ s) : flR s = ([], false) := flR_no fun L a b c => e (by
  obtain ⟨i1, i2⟩ := rdF_text (flsB_of a).2.1 q c.symm
  have h6 := (flsB_of a).1
  have hM : M = L := by
    rw [i1, List.take_of_length_le]
    apply Nat.le_of_not_lt
    intro hl
    rcases z with z | z
    · rw [z, List.drop_eq_getElem_cons hl] at i2
      by_cases y : L.drop (M.length + 1) = []
      · rw [y] at i2
        have : ftI L[M.length] = [] := i2.symm
        unfold ftI at this; simp at this
      · rw [ftT_cons y] at i2; simp at i2
    · omega
  subst hM
  rw [soF_same a b]; exact c)
set_option maxRecDepth 100000 in
set_option maxHeartbeats 4000000 in
theorem hasI_any (v : Value) (L : List Fd) (nm : ByteArray) (w : World) (h : RdG encFd w v L) :
    Calls Try.prog 34 #[v, .string nm] w (GotB (hasB L nm) w) := by
  by_cases hL : L = []
  · subst hL
    obtain ⟨A, c, rfl, hc⟩ := h.nil
    go_enter Try.func34, Try.ntmps34
    go_wp2
    refine wp_loop_rounds 1 ?_
    rw [rounds_succ]; go_wp2
    go_ret
    exact ⟨rfl, Below.refl _ _⟩
  · obtain ⟨b, o, c, rfl, h1, h2, hb, h4⟩ := h.some hL
    unfold maxLen at h2
    have hcells := Lib.hid (fun k (hk : k < L.length) => rdFd_cells h4 hk)
    clear h4 hL
    go_enter Try.func34, Try.ntmps34
    go_wp2
    go_loopw [9] (fun i wr => ∃ k : Nat, k ≤ L.length ∧ i = .int .i64 k ∧ Hid (∀ j (hj : j < L.length), j < k → L[j].name ≠ nm) ∧ Hid (Below w.heap.size w wr)) (fun i _ => L.length - (intOf i).toNat)
    case atStart => exact ⟨0, Nat.zero_le _, rfl, Lib.hid (fun j hj h0 => by omega), Lib.hid (Below.refl _ _)⟩
    case round =>
      obtain ⟨k, hk, rfl, hp, hbr⟩ := hrel
      by_cases hlt : k < L.length
      · obtain ⟨c0, c1⟩ := rdFd_at hcells.out hb hbr.out hlt
        have hyes := fun q => hasB_true (L := L) (n := nm) hlt q
        have hno : L[k].name ≠ nm → ∀ j (hj : j < L.length), j < k + 1 → L[j].name ≠ nm := fun q j hj hjk => by
          by_cases e : j = k
          · subst e; exact q
          · exact hp.out j hj (by omega)
        obtain ⟨e, he⟩ : ∃ e, L[k] = e := ⟨_, rfl⟩
        rw [he] at c0 c1 hyes hno
        obtain ⟨name, val⟩ := e
        simp only at c0 c1 hyes hno
        have hjj : (k : Int) < (L.length : Int) := by omega
        have hkk0 : (0 : Int) ≤ (k : Int) := by omega
        have hB3 : Hid (∀ cs T, Below w.heap.size w (wr.alloc (.cells cs T))) := Lib.hid (fun cs T => hbr.out.alloc hbr.out.size _)
        clear he
        by_cases hn : name = nm
        · have HR := Lib.hid (hyes hn)
          have q := str_same hn
          clear hn hyes hno
          go_wp2
          go_ret
          exact ⟨ret_bool HR.out.symm, hB3.out _ _⟩
        · have HN := Lib.hid (hno hn)
          have q := str_other hn
          clear hn hyes hno
          go_wp2
          go_roundw
          case rel => exact ⟨k + 1, by omega, by go_num, HN, Lib.hid (hB3.out _ _)⟩
          case measure => simp [intOf]; omega
      · have HR : Hid (hasB L nm = false) := Lib.hid (hasB_false (fun j hj => hp.out j hj (by omega)))
        go_wp2
        go_ret
        exact ⟨ret_bool HR.out.symm, hbr.out⟩
def GotNat (n : Nat) (w : World) (e : Ending) (w' : World) : Prop := e = .returned (.int .i64 n) ∧ Below w.heap.size w w'
set_option maxRecDepth 100000 in
set_option maxHeartbeats 4000000 in
theorem rkI_any (v : Value) (L : List Fd) (nm : ByteArray) (w : World) (h : RdG encFd w v L) :
    Calls Try.prog 37 #[v, .string nm] w (GotNat (rkF L nm) w) := by
  by_cases hL : L = []
  · subst hL
    obtain ⟨A, c, rfl, hc⟩ := h.nil
    go_enter Try.func37, Try.ntmps37
    go_wp2
    refine wp_loop_rounds 1 ?_
    rw [rounds_succ]; go_wp2
    go_ret
    exact ⟨rfl, Below.refl _ _⟩
  · obtain ⟨b, o, c, rfl, h1, h2, hb, h4⟩ := h.some hL
    unfold maxLen at h2
    have hcells := Lib.hid (fun k (hk : k < L.length) => rdFd_cells h4 hk)
    clear h4 hL
    go_enter Try.func37, Try.ntmps37
    go_wp2
    go_loopw [5, 10] (fun m i wr => ∃ k r : Nat, k ≤ L.length ∧ r ≤ k ∧ i = .int .i64 k ∧ m = .int .i64 r ∧ Hid (rkF (L.take k) nm = r) ∧ Hid (Below w.heap.size w wr)) (fun _ i _ => L.length - (intOf i).toNat)
    case atStart => exact ⟨0, 0, Nat.zero_le _, Nat.le_refl _, rfl, rfl, Lib.hid rfl, Lib.hid (Below.refl _ _)⟩
    case round =>
      obtain ⟨k, r, hk, hrk, rfl, rfl, hp, hbr⟩ := hrel
      by_cases hlt : k < L.length
      · obtain ⟨c0, c1⟩ := rdFd_at hcells.out hb hbr.out hlt
        have hyes := fun q => rk_yes (L := L) (n := nm) hlt q
        have hno := fun q => rk_no (L := L) (n := nm) hlt q
        rw [hp.out] at hyes hno
        obtain ⟨e, he⟩ : ∃ e, L[k] = e := ⟨_, rfl⟩
        rw [he] at c0 c1 hyes hno
        obtain ⟨name, val⟩ := e
        simp only at c0 c1 hyes hno
        have hjj : (k : Int) < (L.length : Int) := by omega
        have hkk0 : (0 : Int) ≤ (k : Int) := by omega
        have hB3 : Hid (∀ cs T, Below w.heap.size w (wr.alloc (.cells cs T))) := Lib.hid (fun cs T => hbr.out.alloc hbr.out.size _)
        clear he
        rcases hn : Op.bytesLess name.data.toList nm.data.toList with _ | _
        · have HN := Lib.hid (hno hn)
          have q : Op.bytesLess name.toList nm.toList = false := by rw [ByteArray.toList_eq, ByteArray.toList_eq]; exact hn
          clear hn hyes hno
          go_wp2
          go_roundw
          case rel => exact ⟨k + 1, r, by omega, by omega, by go_num, rfl, HN, Lib.hid (hB3.out _ _)⟩
          case measure => simp [intOf]; omega
        · have HN := Lib.hid (hyes hn)
          have q : Op.bytesLess name.toList nm.toList = true := by rw [ByteArray.toList_eq, ByteArray.toList_eq]; exact hn
          have iw := IntWalk.i64_in ((r : Int) + 1) (by omega)
          clear hn hyes hno
          go_wp2
          go_roundw
          case rel => exact ⟨k + 1, r + 1, by omega, by omega, by go_num, by go_num, HN, Lib.hid (hB3.out _ _)⟩
          case measure => simp [intOf]; omega
      · have HR : Hid (rkF L nm = r) := Lib.hid (by rw [← hp.out, List.take_of_length_le (by omega)])
        go_wp2
        go_ret
        exact ⟨by rw [HR.out]; rfl, hbr.out⟩
theorem num_q (z : Int) (w : World) (n : Nat) (b : Bool) (h : inB z 0 1000000000 = b) :
    Calls Try.prog 33 #[.int .i64 z] (w.drewN n) fun e w'' => e = .returned (.bool b) ∧ ∃ m, w'' = w.drewN m := by
  rw [← h]; exact quiet_eq (num_any z _)
theorem flsB_end {L : List Fd} {k : Nat} (h : L.length ≤ k) (h6 : ¬ 6 < L.length) (p : PreD L k) : flsB L = true := by
  rw [← preD_end h p]; exact decide_eq_true (by omega)
set_option maxRecDepth 100000 in
set_option maxHeartbeats 8000000 in
theorem flI_valid (v : Value) (L : List Fd) (w : World) (h : RdG encFd w v L) (hf : FitFds L) :
    Calls Try.prog 12 #[v] w (GotB (flsB L) w) := by
  by_cases h6 : 6 < L.length
  · have hL : L ≠ [] := by intro e; rw [e] at h6; simp at h6
    obtain ⟨b, o, c, rfl, h1, h2, hb, h4⟩ := h.some hL
    unfold maxLen at h2
    have HR := Lib.hid (flsB_len h6)
    clear h4 hL
    go_enter Try.func12, Try.ntmps12
    go_wp2
    go_ret
    exact ⟨ret_bool HR.out.symm, Below.refl _ _⟩
  by_cases hL : L = []
  · subst hL
    obtain ⟨A, c, rfl, hc⟩ := h.nil
    go_enter Try.func12, Try.ntmps12
    go_wp2
    refine wp_loop_rounds 1 ?_
    rw [rounds_succ]; go_wp2
    go_ret
    exact ⟨rfl, Below.refl _ _⟩
  · have hrd := h
    obtain ⟨b, o, c, rfl, h1, h2, hb, h4⟩ := h.some hL
    have h2' := Lib.hid h2
    unfold maxLen at h2
    have hcells := Lib.hid (fun k (hk : k < L.length) => rdFd_cells h4 hk)
    have hrd := Lib.hid hrd
    clear h4 hL h
    go_enter Try.func12, Try.ntmps12
    go_wp2
    go_loopw [10] (fun i wr => ∃ k : Nat, k ≤ L.length ∧ i = .int .i64 k ∧ Hid (PreD L k) ∧ Hid (Below w.heap.size w wr)) (fun i _ => L.length - (intOf i).toNat)
    case atStart => exact ⟨0, Nat.zero_le _, rfl, Lib.hid (preD_zero L), Lib.hid (Below.refl _ _)⟩
    case round =>
      obtain ⟨k, hk, rfl, hp, hbr⟩ := hrel
      by_cases hlt : k < L.length
      · obtain ⟨c0, c1⟩ := rdFd_at hcells.out hb hbr.out hlt
        have hfi := hf _ (List.getElem_mem hlt)
        have hbad := fun q => flsB_item (L := L) hlt q
        have hnext := fun q d => preD_next (L := L) hlt hp.out q d
        have htw := fun j hj e => flsB_name (L := L) (j := j) hj hlt e
        obtain ⟨e, he⟩ : ∃ e, L[k] = e := ⟨_, rfl⟩
        rw [he] at c0 c1 hfi hbad hnext htw
        obtain ⟨name, val⟩ := e
        simp only at c0 c1 htw hnext
        have m0 := fit_max hfi
        simp only at m0
        have hjj : (k : Int) < (L.length : Int) := by omega
        have hkk0 : (0 : Int) ≤ (k : Int) := by omega
        have hkc : k ≤ c := by omega
        have hkc' : (k : Int) ≤ (c : Int) := by omega
        obtain ⟨w3, hw3⟩ : ∃ w3, wr.alloc (.cells #[.string name, .int .i64 val] 28) = w3 := ⟨_, rfl⟩
        have hB3 : Hid (Below w.heap.size w w3) := Lib.hid (by rw [← hw3]; exact hbr.out.alloc hbr.out.size _)
        obtain ⟨d0, d1⟩ := row2 hw3 (Below.refl _ _)
        have hlt3 : wr.heap.size < w3.heap.size := by rw [← hw3]; simp
        have hne3 : ¬ (wr.heap.size = w3.heap.size) := by omega
        have HX := Lib.hid hnext
        have HT := Lib.hid htw
        have hbad := Lib.hid hbad
        clear he hnext htw
        rcases hi0 : wordB name.data.toList with _ | _
        · have HR := Lib.hid (hbad.out (flB_word hi0))
          have H0 := Lib.hid hi0
          clear hi0
          go_wp2_with fail
          go_quiet ((go_at_call 32; with_reducible exact word_q _ _ _ _ H0.out m0))
          go_wp2
          go_ret
          exact ⟨ret_bool HR.out.symm, Below.drawn hB3.out _⟩
        · have H0 := Lib.hid hi0
          rcases hi1 : inB val 0 1000000000 with _ | _
          · have HR := Lib.hid (hbad.out (flB_val hi1))
            have H1 := Lib.hid hi1
            clear hi0 hi1
            go_wp2_with fail
            go_quiet (first | (go_at_call 32; with_reducible exact word_q _ _ _ _ H0.out m0) | (go_at_call 33; with_reducible exact num_q _ _ _ _ H1.out))
            go_wp2
            go_ret
            exact ⟨ret_bool HR.out.symm, Below.drawn hB3.out _⟩
          · have HG := Lib.hid (flB_all (a := ⟨name, val⟩) hi0 hi1)
            have H1 := Lib.hid hi1
            obtain ⟨z, hz⟩ : ∃ z, hasB (L.take k) name = z := ⟨_, rfl⟩
            have hcall : Hid (∀ wz, Below w3.heap.size w3 wz → Calls Try.prog 34 #[.slice (some ⟨b, o, none⟩) k c, .string name] wz (GotB z wz)) := Lib.hid (fun wz hz' => by
              rw [← hz]
              exact hasI_any _ _ _ _ (rdG_take encFd_len ((hrd.out.below hB3.out).below hz') k hk c hkc h2'.out))
            have hw3 := Lib.hid hw3
            have f0 : w3.drew.cell? ⟨wr.heap.size, 0, none⟩ = some (.string name) := d0
            have f1 : w3.drew.cell? ⟨wr.heap.size, 1, none⟩ = some (.int .i64 val) := d1
            clear hi0 hi1
            go_wp2_with fail
            clear c0 c1
            go_region_held3 (fun w' => w'.cell? ⟨wr.heap.size, 0, none⟩ = some (.string name) ∧ w'.cell? ⟨wr.heap.size, 1, none⟩ = some (.int .i64 val))
              (first | exact ⟨f0, f1⟩ | exact ⟨d0, d1⟩ | exact row2 hw3.out hb4 | exact row2 hw3.out (Below.trans (Below.drew (Below.refl _ _)) hb4))
              (first
                | (go_at_call 32; refine (word_any name _ m0).mono ?_; rintro e w' ⟨rfl, rfl⟩; rw [H0.out])
                | (go_at_call 33; refine (num_any val _).mono ?_; rintro e w' ⟨rfl, rfl⟩; rw [H1.out])
                | (go_at_call 34; refine (hcall.out _ (by first | exact Below.refl _ _ | exact Below.drew (Below.refl _ _))).mono ?_; rintro e w4 ⟨rfl, hb4⟩))
            have hB4 : Hid (Below w.heap.size w w4) := Lib.hid (by first | exact below_trans' hB3.out hb4 | exact below_trans' hB3.out (Below.trans (Below.drew (Below.refl _ _)) hb4))
            clear f0 f1 d0 d1 hb4
            rcases z with _ | _
            · have hnot := Lib.hid (hasB_not hz)
              have HN := Lib.hid (HX.out HG.out (fun j hj => by have := hnot.out j (by rw [List.length_take]; omega); rwa [List.getElem_take] at this))
              clear hz
              go_wp2
              go_roundw
              case rel => exact ⟨k + 1, by omega, by go_num, HN, hB4⟩
              case measure => simp [intOf]; omega
            · obtain ⟨j, hj, hjk⟩ := hasB_had hz
              rw [List.length_take] at hj
              rw [List.getElem_take] at hjk
              have HR := Lib.hid (HT.out j (by omega) hjk)
              clear hz hjk
              go_wp2
              go_ret
              exact ⟨ret_bool HR.out.symm, hB4.out⟩
      · have HR := Lib.hid (flsB_end (L := L) (k := k) (by omega) h6 hp.out)
        go_wp2
        go_ret
        exact ⟨ret_bool HR.out.symm, hbr.out⟩
theorem set_set' {α : Type} (L : List α) (r : Nat) (x y : α) : (L.set r x).set r y = L.set r y := by simp
/-- a store of a whole field -/
theorem own_field {w : World} {B g n cap : Nat} {L : List Fd} (h : OwnFd w B (.slice (some ⟨g, 0, none⟩) n cap) L) (r : Nat) (hr : r < L.length) (name : ByteArray) (val : Int) :
    OwnFd ((w.setCell ⟨g, r * 2, none⟩ (.string name)).setCell ⟨g, r * 2 + 1, none⟩ (.int .i64 val)) B (.slice (some ⟨g, 0, none⟩) n cap) (L.set r ⟨name, val⟩) := by
  have h1 := (OwnG.store encFd_len h r hr 0 (by omega) (.string name) ⟨name, L[r].val⟩ rfl (r * 2) (by omega)).1
  have hr2 : r < (L.set r ⟨name, L[r].val⟩).length := by rw [List.length_set]; exact hr
  have h2 := (OwnG.store encFd_len h1 r hr2 1 (by omega) (.int .i64 val) ⟨name, val⟩ (by simp [encFd]) (r * 2 + 1) rfl).1
  rw [set_set'] at h2
  exact h2
set_option maxRecDepth 100000 in
set_option maxHeartbeats 8000000 in
theorem flI_sort (v : Value) (L : List Fd) (w : World) (h : RdG encFd w v L) (hf : FitFds L) :
    Calls Try.prog 16 #[v] w (GotOwnFd (soF L) w) := by
  have hrd := Lib.hid h
  obtain ⟨A0, c0, rfl, hc0, hcm0, _⟩ := h
  unfold maxLen at hcm0
  go_enter Try.func16, Try.ntmps16
  go_wp2_with fail
  refine (flI_valid _ L _ hrd.out hf).mono ?_
  rintro e w2 ⟨rfl, hb2⟩
  have hB2 := Lib.hid hb2
  have hrd2 := Lib.hid (hrd.out.below hb2)
  rcases hF : flsB L with _ | _
  · have HR := Lib.hid (soF_out hF)
    clear hF
    go_wp2
    go_ret
    exact ⟨_, rfl, by rw [HR.out]; exact ownG_nil _ _ _ _ _, hB2.out⟩
  · have HF := Lib.hid hF
    have hL6 := (flsB_of hF).1
    clear hF hb2
    go_wp2_with (at_make; refine fullFd rfl _ _ rfl L.length rfl rfl (by omega) ?_; intro w5 hown5 hb5)
    have hown5 := Lib.hid (OwnG.base (B' := w.heap.size) hown5 hB2.out.size)
    have hB5 := Lib.hid (below_trans' hB2.out hb5)
    have hrd5 := Lib.hid (hrd2.out.below hb5)
    obtain ⟨gS, hgS⟩ : ∃ g, w2.heap.size = g := ⟨_, rfl⟩
    rw [hgS] at hown5 ⊢
    have hgw : w.heap.size ≤ gS := by rw [← hgS]; exact hB2.out.size
    have hgS := Lib.hid hgS
    have hat0 : Hid (AtF L (List.replicate L.length ⟨⟨#[]⟩, 0⟩) 0) := Lib.hid (atF_zero (by simp))
    clear hb5
    go_loopw [14] (fun i wr => ∃ (k : Nat) (M : List Fd), k ≤ L.length ∧ i = .int .i64 k ∧ Hid (AtF L M k) ∧ Hid (OwnFd wr w.heap.size (.slice (some ⟨gS, 0, none⟩) L.length L.length) M) ∧ Hid (Below w.heap.size w wr)) (fun i _ => L.length - (intOf i).toNat)
    case atStart => exact ⟨0, _, Nat.zero_le _, rfl, hat0, hown5, hB5⟩
    case round =>
      obtain ⟨k, M, hk, rfl, hat, hown, hbr⟩ := hrel
      by_cases hlt : k < L.length
      · have hj0 : (0 : Int) ≤ (k : Int) := by omega
        have hjj : (k : Int) < (L.length : Int) := by omega
        have hrdr := Lib.hid (hrd.out.below hbr.out)
        obtain ⟨b, o, c, hv, h1, h2, hb, h4⟩ := hrdr.out.some (by intro e; rw [e] at hlt; simp at hlt)
        obtain ⟨rfl, rfl⟩ : A0 = some ⟨b, o, none⟩ ∧ c0 = c := by simpa using hv
        obtain ⟨x0, x1⟩ := rdFd_cells h4 hlt
        have hnx := atF_next HF.out hlt hat.out
        have hrk := rk_lt HF.out hlt
        have hMl := hat.out.1
        obtain ⟨e, he⟩ : ∃ e, L[k] = e := ⟨_, rfl⟩
        rw [he] at x0 x1 hnx hrk
        obtain ⟨name, val⟩ := e
        simp only at x0 x1 hnx hrk
        obtain ⟨r, hr⟩ : ∃ r, rkF L name = r := ⟨_, rfl⟩
        rw [hr] at hnx hrk
        have hnx := Lib.hid hnx
        have hMl := Lib.hid hMl
        have hr0 : (0 : Int) ≤ (r : Int) := by omega
        have hr1 : (r : Int) < (L.length : Int) := by omega
        obtain ⟨w3, hw3⟩ : ∃ w3, wr.alloc (.cells #[.string name, .int .i64 val] 28) = w3 := ⟨_, rfl⟩
        have hb3 : Below wr.heap.size wr w3 := by rw [← hw3]; exact (Below.refl _ _).alloc (Nat.le_refl _) _
        have hB3 := Lib.hid (below_trans' hbr.out hb3)
        have hrd3 := Lib.hid (hrdr.out.below hb3)
        have hown3 := Lib.hid (OwnG.grown hown.out hb3)
        obtain ⟨d0, d1⟩ := row2 hw3 (Below.refl _ _)
        have hlt3 : wr.heap.size < w3.heap.size := by rw [← hw3]; simp
        have hcall : Hid (∀ wz, Below w3.heap.size w3 wz → Calls Try.prog 37 #[.slice (some ⟨b, o, none⟩) L.length c0, .string name] wz (GotNat r wz)) := Lib.hid (fun wz hz' => by
          rw [← hr]; exact rkI_any _ _ _ _ (hrd3.out.below hz'))
        have hrM : r < M.length := by rw [hMl.out]; exact hrk
        obtain ⟨old, hold⟩ : ∃ y, M[r] = y := ⟨_, rfl⟩
        obtain ⟨oldn, oldv⟩ := old
        have hS : Hid (∀ wX, Below w3.heap.size w3 wX → Below w3.heap.size w3 wX ∧ wX.cell? ⟨wr.heap.size, 0, none⟩ = some (.string name) ∧ wX.cell? ⟨wr.heap.size, 1, none⟩ = some (.int .i64 val) ∧ wX.cell? ⟨gS, r * 2, none⟩ = some (.string oldn) ∧ wX.cell? ⟨gS, r * 2 + 1, none⟩ = some (.int .i64 oldv) ∧ wX.frozen? ⟨gS, r * 2, none⟩ = false ∧ wX.frozen? ⟨gS, r * 2 + 1, none⟩ = false) := Lib.hid (fun wX hX => by
          obtain ⟨a0, a1⟩ := row2 hw3 hX
          obtain ⟨p1, p2, _⟩ := OwnG.cellAt encFd_len (OwnG.grown hown3.out hX) r hrM 0 (by omega) (r * 2) rfl
          obtain ⟨p3, p4, _⟩ := OwnG.cellAt encFd_len (OwnG.grown hown3.out hX) r hrM 1 (by omega) (r * 2 + 1) rfl
          rw [hold] at p1 p3
          exact ⟨hX, a0, a1, p1, p3, p2, p4⟩)
        have hv2 : Hid (∀ wX, Below w3.heap.size w3 wX → wX.cell? ⟨wr.heap.size, 0, none⟩ = some (.string name) ∧ wX.cell? ⟨wr.heap.size, 1, none⟩ = some (.int .i64 val)) := Lib.hid (fun wX hX => ⟨(hS.out wX hX).2.1, (hS.out wX hX).2.2.1⟩)
        have hgr : gS < wr.heap.size := (OwnG.cellAt encFd_len hown.out r hrM 0 (by omega) (r * 2) rfl).2.2
        have hne : ¬ (gS = wr.heap.size) := by omega
        have hne' : ¬ (wr.heap.size = gS) := by omega
        clear he h4 hr hb3
        go_wp2_with fail
        have hw3 := Lib.hid hw3
        clear x0 x1 d0 d1 hold
        go_region_held3 (fun w' => w'.cell? ⟨wr.heap.size, 0, none⟩ = some (.string name) ∧ w'.cell? ⟨wr.heap.size, 1, none⟩ = some (.int .i64 val))
          (first | exact ⟨y0, y1⟩ | exact hv2.out _ (Below.refl _ _) | exact hv2.out _ (Below.drew (Below.refl _ _)) | go_keep)
          (first
            | (go_at_call 37; refine (hcall.out _ (by first | exact Below.refl _ _ | exact Below.drew (Below.refl _ _))).mono ?_; rintro e w4 ⟨rfl, hb4⟩; obtain ⟨hb4, y0, y1, y2, y3, y4, y5⟩ := hS.out w4 (by first | exact hb4 | exact Below.trans (Below.drew (Below.refl _ _)) hb4)))
        have hown4 := Lib.hid (own_field (OwnG.grown hown3.out hb4) r hrM name val)
        have hB5 : Hid (Below w.heap.size w ((w4.setCell ⟨gS, r * 2, none⟩ (.string name)).setCell ⟨gS, r * 2 + 1, none⟩ (.int .i64 val))) := Lib.hid (((below_trans' hB3.out hb4).setCell hgw _).setCell hgw _)
        generalize (w4.setCell ⟨gS, r * 2, none⟩ (.string name)).setCell ⟨gS, r * 2 + 1, none⟩ (.int .i64 val) = w6 at hown4 hB5 ⊢
        clear y0 y1 y2 y3 y4 y5 hb4
        go_wp2
        go_roundw
        case rel => exact ⟨k + 1, _, by omega, by go_num, hnx, hown4, hB5⟩
        case measure => simp [intOf]; omega
      · have HR := Lib.hid (atF_end HF.out (k := k) (by omega) hat.out)
        go_wp2
        go_ret
        exact ⟨_, rfl, by rw [← HR.out]; exact hown.out, hbr.out⟩
set_option maxRecDepth 100000 in
set_option maxHeartbeats 4000000 in
theorem flI_text (v : Value) (L : List Fd) (w : World) (h : RdG encFd w v L) (hf : FitFds L) :
    Calls Try.prog 20 #[v] w (GotStr (ftT (soF L)) w) := by
  go_enter Try.func20, Try.ntmps20
  go_wp2_with fail
  refine (flI_sort v L _ h hf).mono ?_
  rintro e w2 ⟨u, rfl, hown, hb2⟩
  have hB2 := Lib.hid hb2
  obtain ⟨S, hS⟩ : ∃ S, soF L = S := ⟨_, rfl⟩
  have hv : ∀ a ∈ S, flB a = true := by rw [← hS]; exact (flsB_of (soF_valid L)).2.1
  have h6 : S.length ≤ 6 := by rw [← hS]; exact soF_6 L
  rw [hS] at hown
  have hSS := Lib.hid hS
  have hrd := OwnG.rd hown
  clear hb2 hS h hown
  have hvv := Lib.hid hv
  clear hv
  by_cases hL : S = []
  · subst hL
    obtain ⟨A, c, rfl, hc⟩ := hrd.nil
    go_wp2
    refine wp_loop_rounds 1 ?_
    rw [rounds_succ]; go_wp2
    go_ret
    exact ⟨by rw [hSS.out]; rfl, hB2.out⟩
  · obtain ⟨b, o, c, rfl, h1, h2, hb, h4⟩ := hrd.some hL
    unfold maxLen at h2
    have hcells := Lib.hid (fun k (hk : k < S.length) => rdFd_cells h4 hk)
    clear h4 hL hrd
    go_wp2
    go_loopw [3, 9] (fun s i wr => ∃ (k : Nat) (st : ByteArray), k ≤ S.length ∧ i = .int .i64 k ∧ s = .string st ∧ Hid (st = bs (ftT (S.take k))) ∧ Hid (Below w2.heap.size w2 wr)) (fun _ i _ => S.length - (intOf i).toNat)
    case atStart => exact ⟨0, ⟨#[]⟩, Nat.zero_le _, rfl, rfl, Lib.hid rfl, Lib.hid (Below.refl _ _)⟩
    case round =>
      obtain ⟨k, st, hk, rfl, rfl, hst, hbr⟩ := hrel
      by_cases hlt : k < S.length
      · obtain ⟨c0, c1⟩ := rdFd_at hcells.out hb hbr.out hlt
        have hnx := ft_next hlt
        have hfl := hvv.out _ (List.getElem_mem hlt)
        have hstl : st.size ≤ 96 := by
          rw [hst.out, bs_size]
          have := ftT_len (L := S.take k) (fun a m => hvv.out a (List.mem_of_mem_take m))
          rw [List.length_take] at this; omega
        obtain ⟨e, he⟩ : ∃ e, S[k] = e := ⟨_, rfl⟩
        rw [he] at c0 c1 hnx hfl
        obtain ⟨name, val⟩ := e
        simp only at c0 c1
        have hn8 := (word_len (flB_of hfl).1).2
        rw [blen] at hn8
        simp only at hn8
        have z1 : (bs (markT val)).size ≤ 6 := by rw [bs_size]; exact markT_len val
        have z2 : (⟨#[61]⟩ : ByteArray).size = 1 := rfl
        have z3 : (⟨#[59]⟩ : ByteArray).size = 1 := rfl
        have hjj : (k : Int) < (S.length : Int) := by omega
        have hkk0 : (0 : Int) ≤ (k : Int) := by omega
        obtain ⟨w3, hw3⟩ : ∃ w3, wr.alloc (.cells #[.string name, .int .i64 val] 28) = w3 := ⟨_, rfl⟩
        have hb3 : Below wr.heap.size wr w3 := by rw [← hw3]; exact (Below.refl _ _).alloc (Nat.le_refl _) _
        have hB3 := Lib.hid (below_trans' hbr.out hb3)
        obtain ⟨d0, d1⟩ := row2 hw3 (Below.refl _ _)
        clear he hfl hb3
        by_cases z : k = 0
        · have HR : Hid ((st ++ name ++ ⟨#[61]⟩ ++ bs (markT val) : ByteArray) = bs (ftT (S.take (k + 1)))) := Lib.hid (by rw [hnx, if_pos z]; exact ft_step0 name val (by have := hst.out; rw [z] at this; exact this))
          have s1 : st.size + name.size ≤ 9223372036854775807 := by omega
          have s2 : (st ++ name).size + (⟨#[61]⟩ : ByteArray).size ≤ 9223372036854775807 := by simp only [ByteArray.size_append]; omega
          have s3 : (st ++ name ++ ⟨#[61]⟩).size + (bs (markT val)).size ≤ 9223372036854775807 := by simp only [ByteArray.size_append]; omega
          have g0 : decide (0 < k) = false := decide_eq_false (by omega)
          clear z hnx z1 z2 z3 hn8 hstl
          go_wp2_with fail
          go_quiet ((go_at_call 38; exact quiet_eq (mark_any val _)))
          go_wp2
          go_roundw
          case rel => exact ⟨k + 1, _, by omega, by go_num, rfl, HR, Lib.hid (Below.drawn hB3.out _)⟩
          case measure => simp [intOf]; omega
        · have HR : Hid ((st ++ ⟨#[59]⟩ ++ name ++ ⟨#[61]⟩ ++ bs (markT val) : ByteArray) = bs (ftT (S.take (k + 1)))) := Lib.hid (by rw [hnx, if_neg z]; exact ft_step1 name val hst.out)
          have s0 : st.size + (⟨#[59]⟩ : ByteArray).size ≤ 9223372036854775807 := by omega
          have s1 : (st ++ ⟨#[59]⟩).size + name.size ≤ 9223372036854775807 := by simp only [ByteArray.size_append]; omega
          have s2 : (st ++ ⟨#[59]⟩ ++ name).size + (⟨#[61]⟩ : ByteArray).size ≤ 9223372036854775807 := by simp only [ByteArray.size_append]; omega
          have s3 : (st ++ ⟨#[59]⟩ ++ name ++ ⟨#[61]⟩).size + (bs (markT val)).size ≤ 9223372036854775807 := by simp only [ByteArray.size_append]; omega
          have g0 : decide (0 < k) = true := decide_eq_true (by omega)
          clear z hnx z1 z2 z3 hn8 hstl
          go_wp2_with fail
          go_quiet ((go_at_call 38; exact quiet_eq (mark_any val _)))
          go_wp2
          go_roundw
          case rel => exact ⟨k + 1, _, by omega, by go_num, rfl, HR, Lib.hid (Below.drawn hB3.out _)⟩
          case measure => simp [intOf]; omega
      · have he : k = S.length := by omega
        subst he
        have HR : Hid (st = bs (ftT (soF L))) := Lib.hid (by rw [hst.out, List.take_length, hSS.out])
        go_wp2
        go_ret
        exact ⟨by rw [HR.out]; rfl, below_trans' hB2.out hbr.out⟩
theorem frzF {w w1 wX : World} {cs : Array Value} {T : TypeId} (hw : w.alloc (.cells cs T) = w1) (hB : Below w1.heap.size w1 wX) : ∀ j, wX.frozen? ⟨w.heap.size, j, none⟩ = false := fun j => by
  subst hw
  have hX := (hB.block w.heap.size (by simp)).trans (heap_alloc_new w (.cells cs T))
  simp [World.frozen?, hX]
/-- a field out of a pair -/
def GotPair (s : ByteArray) (w : World) (e : Ending) (w' : World) : Prop := ∃ n m : ByteArray, CutC 61 s.data.toList n.data.toList m.data.toList ∧ n.size ≤ s.size ∧ e = .returned (.agg #[.string n, .int .i64 (readM m.data.toList)]) ∧ Below w.heap.size w w'
set_option maxRecDepth 100000 in
set_option maxHeartbeats 2000000 in
theorem pairI_any (s : ByteArray) (w : World) (hs : s.size ≤ maxLen) :
    Calls Try.prog 41 #[.string s] w (GotPair s w) := by
  obtain ⟨w1, hw1⟩ : ∃ w1, w.alloc (.cells #[.string ⟨#[]⟩, .int .i64 0] 28) = w1 := ⟨_, rfl⟩
  have hb1 : Below w.heap.size w w1 := by rw [← hw1]; exact (Below.refl _ _).alloc (Nat.le_refl _) _
  have hs1 : w.heap.size < w1.heap.size := by rw [← hw1]; simp
  have hres := Lib.hid (fun wX (hX : Below w1.heap.size w1 wX) => row2 hw1 hX)
  have hfr := Lib.hid (fun wX (hX : Below w1.heap.size w1 wX) => frzF hw1 hX)
  have hB1 := Lib.hid hb1
  have hrf : Hid (w.heap.size ≤ w.heap.size) := Lib.hid (Nat.le_refl _)
  clear hb1
  go_enter Try.func41, Try.ntmps41
  go_wp2_with fail
  have hw1 := Lib.hid hw1
  refine (cutI_any s 61 _ hs).mono ?_
  rintro e w2 ⟨n, m, hc1, hn, hm, rfl, hb2⟩
  have hc1 := Lib.hid hc1
  have mm : m.size ≤ maxLen := Nat.le_trans hm hs
  have HB2 := Lib.hid (below_trans' hB1.out hb2)
  obtain ⟨z0, z1⟩ := hres.out w2 hb2
  have zf := hfr.out w2 hb2
  have hn := Lib.hid hn
  clear hm hs
  go_wp2_with (go_at_call 54; refine (readm_any m _ mm).mono ?_; rintro e w' ⟨rfl, rfl⟩)
  refine bodyPost_ret (v := .agg #[.string n, .int .i64 (readM m.data.toList)]) (by simp [results, Try.results41, go_sem, z0, z1]) rfl ⟨n, m, hc1.out, hn.out, rfl, ?_⟩
  repeat (first | with_reducible exact HB2.out | with_reducible refine Below.setCell ?_ hrf.out _)
set_option maxRecDepth 100000 in
set_option maxHeartbeats 8000000 in
theorem flI_read (s : ByteArray) (w : World) (hs : s.size ≤ 90000000) :
    Calls Try.prog 22 #[.string s] w (GotFls (flR s.data.toList) w) := by
  have hsm : s.size ≤ maxLen := by unfold maxLen; omega
  have hsm := Lib.hid hsm
  go_enter Try.func22, Try.ntmps22
  go_wp2_with (at_make; refine mkFd rfl _ _ rfl 6 rfl rfl (by omega) ?_; intro w2 hown2 hb2)
  have hown2 := Lib.hid hown2
  have hB2 := Lib.hid hb2
  clear hb2
  go_loopw [4, 5] (fun y i wr => ∃ (g cap : Nat) (M : List Fd) (r : ByteArray), M.length ≤ 6 ∧ y = .slice (some ⟨g, 0, none⟩) M.length cap ∧ i = .string r ∧ Hid (RdF s.data.toList M r.data.toList) ∧ Hid (r.size ≤ s.size) ∧ Hid (OwnFd wr w.heap.size (.slice (some ⟨g, 0, none⟩) M.length cap) M) ∧ Hid (FitFds M) ∧ Hid (Below w.heap.size w wr)) (fun _ i _ => match i with | .string r => r.size | _ => 0)
  case atStart => exact ⟨w.heap.size, 6, [], s, by simp, rfl, rfl, Lib.hid (.start _), Lib.hid (Nat.le_refl _), hown2, Lib.hid (fun _ m => by simp at m), hB2⟩
  case round =>
    obtain ⟨g, cap, M, r, h6, rfl, rfl, hq, hrs, hown, hfit, hbr⟩ := hrel
    have hgo : (r.data.toList ≠ [] ∧ M.length < 6) ∨ (r.data.toList = [] ∨ 6 ≤ M.length) := by
      by_cases h1 : r.data.toList = []
      · exact .inr (.inl h1)
      · by_cases h2 : M.length < 6
        · exact .inl ⟨h1, h2⟩
        · exact .inr (.inr (by omega))
    have hz : ∀ x : ByteArray, x.data.toList = [] ↔ x.size = 0 := fun x => by rw [← List.length_eq_zero_iff, blen]
    rcases hgo with ⟨h1, h2⟩ | hend
    · have h0 : r.size ≠ 0 := fun q => h1 ((hz r).2 q)
      have q1 := str_ne h0
      have q2 := str_full h0
      have q3 : decide ((M.length : Int) < 6) = true := decide_eq_true (by omega)
      have hrm : r.size ≤ maxLen := Nat.le_trans hrs.out hsm.out
      have HZ := Lib.hid h1
      clear h1 hz h0
      go_wp2_with fail
      refine (cutI_any r 59 _ hrm).mono ?_
      rintro e w3 ⟨pr, af, hc, hp, ha, rfl, hb3⟩
      have hlt : Hid (af.size < r.size) := Lib.hid (by have := cutC_less HZ.out hc; rwa [blen, blen] at this)
      have hpm : pr.size ≤ maxLen := Nat.le_trans hp hrm
      have hB3 := Lib.hid (below_trans' hbr.out hb3)
      have hown3 := Lib.hid (OwnG.grown hown.out hb3)
      have hps : Hid (pr.size ≤ 90000000) := Lib.hid (by have := hrs.out; omega)
      have has : Hid (af.size ≤ s.size) := Lib.hid (by have := hrs.out; omega)
      have hc := Lib.hid hc
      clear hb3 hp ha q1 q2 hrm
      go_wp2_with fail
      refine (pairI_any pr _ hpm).mono ?_
      rintro e w4 ⟨n, m, hd, hn, rfl, hb4⟩
      have hB4 := Lib.hid (below_trans' hB3.out hb4)
      have hown4 := Lib.hid (OwnG.grown hown3.out hb4)
      obtain ⟨z, hzz⟩ : ∃ z, readM m.data.toList = z := ⟨_, rfl⟩
      have hX : Hid (RdF s.data.toList (M ++ [⟨n, z⟩]) af.data.toList) := Lib.hid (by
        have := RdF.step hq.out HZ.out hc.out hd
        rwa [hzz, show bs n.data.toList = n from by apply ByteArray.ext; apply Array.toList_inj.1; rw [bs_data]] at this)
      have hfit2 : Hid (FitFds (M ++ [⟨n, z⟩])) := Lib.hid (fun y my => by
        rcases List.mem_append.1 my with my | my
        · exact hfit.out y my
        · have : y = ⟨n, z⟩ := by simpa using my
          rw [this]; show n.size ≤ _; have := hps.out; omega)
      have hll : M.length ≤ 1073741824 := by omega
      have hszr := hB4.out.size
      rw [hzz]
      have hl7 : Hid ((M ++ [(⟨n, z⟩ : Fd)]).length = M.length + 1) := Lib.hid (by simp)
      clear hb4 hd hn hpm hzz
      go_wp2_with (at_builtin; refine appFd rfl (.tmp 22) (.tmp 25) rfl w.heap.size _ M n z rfl hown4.out hszr w4.heap.size rfl rfl hll ?_; intro v7 w7 hown7 hg7)
      have hB7 := Lib.hid (own_below' hown4.out hB4.out hg7)
      rcases OwnG.form hown7 with ⟨_, hnil⟩ | ⟨g7, cap7, hv7, _⟩
      · simp at hnil
      · subst hv7
        have hown7 := Lib.hid hown7
        clear hg7
        go_roundw
        case rel => exact ⟨g7, cap7, _, af, by rw [hl7.out]; omega, rfl, rfl, hX, has, hown7, hfit2, hB7⟩
        case measure => exact hlt.out
    · have HE := Lib.hid hend
      have hfork : (r.toList = [] ∧ r.toList.isEmpty = true) ∨ (¬ r.toList = [] ∧ r.toList.isEmpty = false ∧ decide ((M.length : Int) < 6) = false) := by
        by_cases h1 : r.size = 0
        · exact .inl ⟨str_nil h1, by rw [str_nil h1]; rfl⟩
        · refine .inr ⟨str_ne h1, str_full h1, decide_eq_false ?_⟩
          rcases hend with e | e
          · exact absurd ((hz r).1 e) h1
          · omega
      clear hend hz
      rcases hfork with ⟨q1, q2⟩ | ⟨q1, q2, q3⟩
      all_goals
        go_wp2_with fail
        refine (flI_text _ M _ (OwnG.rd hown.out) hfit.out).mono ?_
        rintro e w4 ⟨rfl, hb4⟩
        have hB4 := Lib.hid (below_trans' hbr.out hb4)
        have hown4 := Lib.hid (OwnG.grown hown.out hb4)
        clear hb4
        by_cases ht : bs (ftT (soF M)) = s
        · have q := str_same ht
          have HR : Hid (flR s.data.toList = (M, true)) := Lib.hid (rdF_yes hq.out HE.out (by rw [← ht, bs_data]))
          clear ht
          go_wp2
          go_ret2
          exact ⟨_, by rw [HR.out]; rfl, by rw [HR.out]; exact hown4.out, hB4.out⟩
        · have q := str_other ht
          have HR : Hid (flR s.data.toList = ([], false)) := Lib.hid (rdF_no hq.out HE.out (fun e => ht (by apply ByteArray.ext; apply Array.toList_inj.1; rw [bs_data]; exact e)))
          clear ht
          go_wp2
          go_ret2
          exact ⟨_, by rw [HR.out]; rfl, by rw [HR.out]; exact ownG_nil _ _ _ _ _, hB4.out⟩
end Go.Proofs.Ytchknjhfodofcaa
