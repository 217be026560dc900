/-
  The verifier's own text: ItemMath ItemMore RegInv RegDraw ArgI.
-/
import Derived.Test.YthniiknhbhoncaaRows
import Derived.Test.YthniiknhbhoncaaGa
import Derived.Orders
import Derived.Test.YthniiknhbhoncaaGb
import Derived.Lib.SmallJoins
import Derived.WalkKit
import Derived.ProofKit
import Derived.Below
import Derived.Lib.Hide
import Derived.Outline
import Derived.BigQuiet
import Derived.Deep.QuietTactic
import Derived.Deep.Draws
import Derived.Laws.OwnMore
import Derived.Laws.Rows
import Derived.WalkSpells
import Derived.Deep.RegionWith
namespace Go.Proofs.Ythniiknhbhoncaa
open Go.RowKit
set_option linter.unusedVariables false
/-- an item: key, title, text, day -/
structure It where
  key : ByteArray
  title : ByteArray
  body : ByteArray
  day : Int
def It.zero : It := ⟨⟨#[]⟩, ⟨#[]⟩, ⟨#[]⟩, 0⟩
def dayB (d : Int) : Bool := decide (0 ≤ d ∧ d ≤ 1460969)
def itB (i : It) : Bool := wordB i.key.data.toList && textB i.title.data.toList && decide (i.title.size ≠ 0) && textB i.body.data.toList && dayB i.day
def kKey : ByteArray := ⟨#[107, 101, 121]⟩
def kTitle : ByteArray := ⟨#[116, 105, 116, 108, 101]⟩
def kBody : ByteArray := ⟨#[98, 111, 100, 121]⟩
def kDay : ByteArray := ⟨#[100, 97, 121]⟩
def kOther : ByteArray := ⟨#[111, 116, 104, 101, 114]⟩
/-- the elements that an item is written by -/
def itE (i : It) : EL := [(kKey, i.key), (kTitle, i.title), (kBody, i.body), (kDay, bs (dateT i.day))]
def itT (i : It) : List UInt8 := if itB i then elT (itE i) else []
/-- how many elements have a name -/
def cntE (L : EL) (n : ByteArray) : Nat := L.countP fun e => decide (e.1 = n)
def fstE (L : EL) (n : ByteArray) : ByteArray := (elX1 L n).1
/-- the item that elements stand for -/
def itOf (L : EL) : It := ⟨fstE L kKey, fstE L kTitle, fstE L kBody, readD (fstE L kDay).data.toList⟩
def cntOk (L : EL) : Bool := decide (cntE L kKey = 1) && decide (cntE L kTitle = 1) && decide (cntE L kDay = 1) && decide (cntE L kBody ≤ 1)
def itR (L : EL) : It × Bool := if cntOk L && itB (itOf L) then (itOf L, true) else (It.zero, false)
theorem itT_in {i : It} (h : itB i = true) : itT i = elT (itE i) := by simp [itT, h]
theorem itT_out {i : It} (h : itB i = false) : itT i = [] := by simp [itT, h]
theorem itR_in {L : EL} (h : cntOk L = true) (h' : itB (itOf L) = true) : itR L = (itOf L, true) := by simp [itR, h, h']
theorem itR_cnt {L : EL} (h : cntOk L = false) : itR L = (It.zero, false) := by simp [itR, h]
theorem itR_bad {L : EL} (h' : itB (itOf L) = false) : itR L = (It.zero, false) := by simp [itR, h']
theorem itB_of {i : It} (h : itB i = true) : wordB i.key.data.toList = true ∧ textB i.title.data.toList = true ∧ i.title.size ≠ 0 ∧ textB i.body.data.toList = true ∧ dayB i.day = true := by
  unfold itB at h; simp only [Bool.and_eq_true, decide_eq_true_eq] at h; exact ⟨h.1.1.1.1, h.1.1.1.2, h.1.1.2, h.1.2, h.2⟩
theorem itB_mk {i : It} (a : wordB i.key.data.toList = true) (b : textB i.title.data.toList = true) (c : i.title.size ≠ 0) (d : textB i.body.data.toList = true) (e : dayB i.day = true) : itB i = true := by
  unfold itB; simp [a, b, c, d, e]
theorem itB_key {i : It} (h : wordB i.key.data.toList = false) : itB i = false := by simp [itB, h]
theorem itB_title {i : It} (h : textB i.title.data.toList = false) : itB i = false := by simp [itB, h]
theorem itB_empty {i : It} (h : i.title.size = 0) : itB i = false := by simp [itB, h]
theorem itB_body {i : It} (h : textB i.body.data.toList = false) : itB i = false := by simp [itB, h]
theorem itB_day {i : It} (h : dayB i.day = false) : itB i = false := by simp [itB, h]
theorem dayB_in {d : Int} (h : dayB d = true) : 0 ≤ d ∧ d ≤ 1460969 := by simpa [dayB] using h
theorem dayB_out {d : Int} (h : dayB d = false) : d < 0 ∨ 1460969 < d := by simp [dayB] at h; omega
theorem dayT_ten {d : Int} (h : dayB d = true) : (dateT d).length = 10 ∧ readD (dateT d) = d := by
  obtain ⟨h0, h1⟩ := dayB_in h
  obtain ⟨y, m, q, hd, rfl⟩ := date_of h0 h1
  rw [dateT_of hd]
  exact ⟨dateL_len _ _ _, readD_date hd⟩
theorem dayT_none {d : Int} (h : dayB d = false) : dateT d = [] := dateT_out (dayB_out h)
theorem wc_tc {c : UInt8} (h : wcB c = true) : tcB c = true := by
  unfold wcB at h
  simp only [Bool.or_eq_true] at h
  unfold tcB
  rcases h with h | h
  · have := digI_bd h; simp; omega
  · have := smlI_bd h; simp; omega
theorem word_text {l : List UInt8} (h : wordB l = true) : textB l = true := by
  have hl := word_len h
  unfold wordB at h
  simp only [Bool.and_eq_true, List.all_eq_true] at h
  unfold textB
  simp only [Bool.and_eq_true, decide_eq_true_eq, List.all_eq_true]
  exact ⟨by omega, fun c m => wc_tc (h.2 c m)⟩
theorem dg_tc (n : Int) (a : 0 ≤ n) (b : n ≤ 9) : tcB (dg n) = true := by
  have := dg_toNat a b; unfold tcB; simp; omega
theorem date_text (d : Int) : textB (dateT d) = true := by
  rcases h : dayB d with _ | _
  · rw [dayT_none h]; rfl
  · obtain ⟨h0, h1⟩ := dayB_in h
    obtain ⟨y, m, q, hd, rfl⟩ := date_of h0 h1
    rw [dateT_of hd]
    have r := isD_rng hd
    have t46 : tcB 46 = true := by decide
    unfold textB dateL
    simp only [List.all_cons, List.all_nil, t46, dg_tc (y / 1000) (by omega) (by omega), dg_tc (y / 100 % 10) (by omega) (by omega), dg_tc (y / 10 % 10) (by omega) (by omega), dg_tc (y % 10) (by omega) (by omega), dg_tc (m / 10) (by omega) (by omega), dg_tc (m % 10) (by omega) (by omega), dg_tc (q / 10) (by omega) (by omega), dg_tc (q % 10) (by omega) (by omega)]
    rfl
theorem itE_ok {i : It} (h : itB i = true) : ∀ e ∈ itE i, okE e = true := by
  obtain ⟨a, b, _, d, _⟩ := itB_of h
  have w1 : wordB kKey.data.toList = true := by decide
  have w2 : wordB kTitle.data.toList = true := by decide
  have w3 : wordB kBody.data.toList = true := by decide
  have w4 : wordB kDay.data.toList = true := by decide
  intro e m
  simp only [itE, List.mem_cons, List.not_mem_nil, or_false] at m
  rcases m with rfl | rfl | rfl | rfl
  · exact okE_both w1 (word_text a)
  · exact okE_both w2 b
  · exact okE_both w3 d
  · exact okE_both w4 (by rw [bs_data]; exact date_text _)
theorem itE_valid {i : It} (h : itB i = true) : elB (itE i) = true := elB_of (by simp [itE]) (itE_ok h)
theorem kO_word : wordB kOther.data.toList = true := by decide
theorem itO_valid {i : It} {x : ByteArray} (h : itB i = true) (hx : textB x.data.toList = true) : elB ((kOther, x) :: itE i) = true :=
  elB_of (by simp [itE]) (fun e m => by
    rcases List.mem_cons.1 m with rfl | m
    · exact okE_both kO_word hx
    · exact itE_ok h e m)
theorem itT_elL {i : It} (h : itB i = true) : itT i = elL (itE i) := by rw [itT_in h, elT_in (itE_valid h)]
theorem itT_len (i : It) : (itT i).length ≤ 4008 := by
  unfold itT; split
  · exact elT_len _
  · simp
theorem k12 : kKey ≠ kTitle := by decide
theorem k13 : kKey ≠ kBody := by decide
theorem k14 : kKey ≠ kDay := by decide
theorem k23 : kTitle ≠ kBody := by decide
theorem k24 : kTitle ≠ kDay := by decide
theorem k34 : kBody ≠ kDay := by decide
theorem k01 : kOther ≠ kKey := by decide
theorem k02 : kOther ≠ kTitle := by decide
theorem k03 : kOther ≠ kBody := by decide
theorem k04 : kOther ≠ kDay := by decide
theorem itE_cnt (i : It) : cntOk (itE i) = true := by
  simp [cntOk, cntE, itE, k12, k13, k14, k23, k24, k34, k12.symm, k13.symm, k14.symm, k23.symm, k24.symm, k34.symm]
theorem itO_cnt (i : It) (x : ByteArray) : cntOk ((kOther, x) :: itE i) = true := by
  simp [cntOk, cntE, itE, k12, k13, k14, k23, k24, k34, k12.symm, k13.symm, k14.symm, k23.symm, k24.symm, k34.symm, k01, k02, k03, k04]
theorem itE_of {i : It} (h : itB i = true) : itOf (itE i) = i := by
  have hd := (dayT_ten (itB_of h).2.2.2.2).2
  simp [itOf, fstE, itE, elX1, k12, k13, k14, k23, k24, k34, bs_data, hd]
theorem itO_of {i : It} (x : ByteArray) (h : itB i = true) : itOf ((kOther, x) :: itE i) = i := by
  have hd := (dayT_ten (itB_of h).2.2.2.2).2
  simp [itOf, fstE, itE, elX1, k12, k13, k14, k23, k24, k34, k01, k02, k03, k04, bs_data, hd]
theorem itR_itE {i : It} (h : itB i = true) : itR (itE i) = (i, true) := by rw [itR_in (itE_cnt i) (by rw [itE_of h]; exact h), itE_of h]
theorem itR_itO {i : It} (x : ByteArray) (h : itB i = true) : itR ((kOther, x) :: itE i) = (i, true) := by rw [itR_in (itO_cnt i x) (by rw [itO_of x h]; exact h), itO_of x h]
theorem itR_nil : itR [] = (It.zero, false) := itR_cnt (by simp [cntOk, cntE])
theorem cnt_snoc (L : EL) (n x : ByteArray) : cntE (L ++ [(n, x)]) n = cntE L n + 1 := by simp [cntE]
/-- a second key is refused -/
theorem itR_twice {L : EL} (x : ByteArray) (h : (itR L).2 = true) : itR (L ++ [(kKey, x)]) = (It.zero, false) := by
  rcases hc : cntOk L with _ | _
  · rw [itR_cnt hc] at h; cases h
  · apply itR_cnt
    have h1 : cntE L kKey = 1 := by unfold cntOk at hc; simp at hc; exact hc.1.1.1
    unfold cntOk
    rw [cnt_snoc, h1]; rfl
theorem itR_ok {L : EL} {i : It} (h : itR L = (i, true)) : itB i = true ∧ i = itOf L := by
  unfold itR at h
  split at h
  · rename_i q
    have : itOf L = i := by cases h; rfl
    rw [← this]; simp only [Bool.and_eq_true] at q; exact ⟨q.2, rfl⟩
  · cases h
theorem itR_zero {L : EL} {i : It} (h : itR L = (i, false)) : i = It.zero := by
  unfold itR at h
  split at h
  · cases h
  · cases h; rfl
theorem cnt_take {L : EL} {n : ByteArray} {k : Nat} (h : k < L.length) : cntE (L.take (k + 1)) n = cntE (L.take k) n + if L[k].1 = n then 1 else 0 := by
  unfold cntE
  rw [List.take_succ_eq_append_getElem h, List.countP_append]
  by_cases e : L[k].1 = n <;> simp [e]
theorem fst_size {L : EL} {n : ByteArray} (h : elB L = true) : (fstE L n).size ≤ 80 := by
  unfold fstE
  have : ∀ M : EL, (∀ e ∈ M, okE e = true) → (elX1 M n).1.size ≤ 80 := by
    intro M
    induction M with
    | nil => intro _; exact Nat.zero_le _
    | cons e M ih =>
      intro hM
      unfold elX1
      split
      · have := textB_len (okE_of (hM e (by simp))).2; rw [blen] at this; exact this
      · exact ih (fun x m => hM x (by simp [m]))
  exact this L (elB_mem h)
theorem elX_fst {L : EL} {n : ByteArray} (h : elB L = true) : (elX L n).1 = fstE L n := by rw [elX_in n h]; rfl
def keyK : List UInt8 := [60, 107, 101, 121, 62, 107, 60, 47, 107, 101, 121, 62]
def othX : List UInt8 := [60, 111, 116, 104, 101, 114, 62, 120, 60, 47, 111, 116, 104, 101, 114, 62]
theorem keyK_el : elT1 (kKey, ⟨#[107]⟩) = keyK := by decide
theorem othX_el : elT1 (kOther, ⟨#[120]⟩) = othX := by decide
theorem rdE_itE {i : It} (h : itB i = true) : RdE (itT i) (itE i) true := .inl ⟨rfl, itE_valid h, (itT_elL h).symm⟩
theorem rdE_itO {i : It} (h : itB i = true) : RdE (othX ++ itT i) ((kOther, ⟨#[120]⟩) :: itE i) true :=
  .inl ⟨rfl, itO_valid h (by decide), by rw [elL_cons, othX_el, itT_elL h]⟩
/-- with a second key no item is read -/
theorem itR_more {s : List UInt8} {L L5 : EL} {ok5 : Bool} (h : RdE s L true) (hz : (itR L).2 = true) (h5 : RdE (s ++ keyK) L5 ok5) : itR L5 = (It.zero, false) := by
  rcases h with ⟨_, hv, he⟩ | ⟨h, _⟩
  · rcases h5 with ⟨_, hv5, he5⟩ | ⟨_, h5, _⟩
    · obtain ⟨L2, e1, e2⟩ := elL_pre L L5 keyK (elB_good hv) (elB_good hv5) (by rw [he5, he])
      have hk : goodE (kKey, ⟨#[107]⟩) := ⟨by decide, by decide⟩
      have hg2 : ∀ e ∈ L2, goodE e := fun e m => elB_good hv5 e (by rw [e1]; simp [m])
      obtain ⟨L3, e3, e4⟩ := elL_pre [(kKey, ⟨#[107]⟩)] L2 [] (fun e m => by have : e = (kKey, ⟨#[107]⟩) := by simpa using m
                                                                             rw [this]; exact hk) hg2 (by rw [e2, elL_cons, elL_nil, keyK_el]; simp)
      rw [elL_eq_nil e4, List.append_nil] at e3
      rw [e1, e3]; exact itR_twice _ hz
    · rw [h5]; exact itR_nil
  · cases h
/-! A region that draws its order, by an invariant: each operation is looked at once, not once in each order. -/
def upd (f : Nat → Bool) (i : Nat) : Nat → Bool := fun j => if j = i then true else f j
theorem upd_self (f : Nat → Bool) (i : Nat) : upd f i i = true := by simp [upd]
theorem upd_ne {f : Nat → Bool} {i j : Nat} (h : j ≠ i) : upd f i j = f j := by simp [upd, h]
def listF (listed : Array Bool) : Nat → Bool := fun j => listed.getD j false
theorem listF_set {listed : Array Bool} {i : Nat} (hi : i < listed.size) : listF (listed.setIfInBounds i true) = upd (listF listed) i := by
  funext j
  unfold listF upd
  by_cases e : j = i
  · subst e; simp [hi]
  · simp only [e, if_false]
    simp only [Array.getD_eq_getD_getElem?]
    rw [Array.getElem?_setIfInBounds_ne (by omega)]
def unl (n : Nat) (listed : Array Bool) : Nat := (List.range n).countP fun i => !listF listed i
theorem countP_lt {p q : Nat → Bool} {i : Nat} : ∀ (l : List Nat), (∀ x ∈ l, q x = true → p x = true) → i ∈ l → p i = true → q i = false → l.countP q < l.countP p := by
  intro l
  induction l with
  | nil => intro _ h; simp at h
  | cons x l ih =>
    intro h hm hp hq
    have hle : l.countP q ≤ l.countP p := List.countP_mono_left fun y hy => h y (by simp [hy])
    rcases List.mem_cons.1 hm with rfl | hm
    · rw [List.countP_cons_of_pos hp, List.countP_cons_of_neg (by simp [hq])]; omega
    · have := ih (fun y hy => h y (by simp [hy])) hm hp hq
      rcases hqx : q x with _ | _
      · rw [List.countP_cons_of_neg (p := q) (by simp [hqx])]
        have : l.countP p ≤ (x :: l).countP p := by rw [List.countP_cons]; omega
        omega
      · rw [List.countP_cons_of_pos hqx, List.countP_cons_of_pos (h x (by simp) hqx)]; omega
theorem any_inv {P : Program} {md : Region.Mode} {ops : Array Oper} {Q : Exit → Act → World → Prop} (I : (Nat → Bool) → Act → World → Prop)
    (dag : (List.range ops.size).all (fun i => ((ops[i]?).map fun o => o.after.all fun e => decide (e.on < i)).getD true) = true)
    (step : ∀ (i : Nat) (o : Oper) (f : Nat → Bool) (a : Act) (w : World), ops[i]? = some o → f i = false → (∀ e ∈ o.after, Region.binds md e = true → f e.on = true) → I f a w → wpOp P ops Q i (fun a' w' => I (upd f i) a' w') a w)
    (fin : ∀ f a w, (∀ i, i < ops.size → f i = true) → I f a w → Q .normal a w) :
    ∀ (fuel : Nat) (listed : Array Bool) (a : Act) (w : World), listed.size = ops.size → unl ops.size listed ≤ fuel → I (listF listed) a w → wpAny P md ops Q fuel listed a w := by
  have hall : ∀ listed : Array Bool, listed.size = ops.size → Region.ready md ops listed = [] → ∀ i, i < ops.size → listF listed i = true := by
    intro listed hsz hr i
    induction i using Nat.strongRecOn with
    | ind i ih =>
      intro hi
      rcases hq : listF listed i with _ | _
      · exfalso
        have hmem : i ∈ Region.ready md ops listed := by
          rw [mem_ready]
          refine ⟨?_, ops[i], Array.getElem?_eq_getElem hi, fun e he hb => ?_⟩
          · unfold listF at hq
            simp only [Array.getD_eq_getD_getElem?] at hq ⊢
            rw [Array.getElem?_eq_getElem (by omega)] at hq ⊢
            exact hq
          · have h1 := List.all_eq_true.1 dag i (List.mem_range.2 hi)
            rw [Array.getElem?_eq_getElem hi] at h1
            simp only [Option.map_some, Option.getD_some] at h1
            have h2 := Array.all_eq_true_iff_forall_mem.1 h1 e he
            have h3 : e.on < i := of_decide_eq_true h2
            exact ih e.on h3 (by omega)
        rw [hr] at hmem; cases hmem
      · rfl
  intro fuel
  induction fuel with
  | zero =>
    intro listed a w hsz hu hI
    have ha : ∀ i, i < ops.size → listF listed i = true := by
      intro i hi
      have h0 : unl ops.size listed = 0 := by omega
      unfold unl at h0
      have := List.countP_eq_zero.1 h0 i (List.mem_range.2 hi)
      simpa using this
    refine ⟨?_, fin _ a w ha hI⟩
    rcases hr : Region.ready md ops listed with _ | ⟨i, r⟩
    · rfl
    · have hm : i ∈ Region.ready md ops listed := by rw [hr]; simp
      rw [mem_ready] at hm
      obtain ⟨h0, o, ho, _⟩ := hm
      have hi : i < ops.size := (Array.getElem?_eq_some_iff.1 ho).1
      have h1 := ha i hi
      unfold listF at h1
      simp only [Array.getD_eq_getD_getElem?] at h0 h1
      rw [Array.getElem?_eq_getElem (by omega)] at h0 h1
      simp only [Option.getD_some] at h0 h1
      rw [h0] at h1; cases h1
  | succ fuel ih =>
    intro listed a w hsz hu hI
    refine ⟨fun hr => fin _ a w (hall listed hsz hr) hI, fun i hi => ?_⟩
    have hm := mem_ready.1 hi
    obtain ⟨h0, o, ho, he⟩ := hm
    have hlt : i < ops.size := (Array.getElem?_eq_some_iff.1 ho).1
    have hfi : listF listed i = false := by
      unfold listF
      simp only [Array.getD_eq_getD_getElem?] at h0 ⊢
      rw [Array.getElem?_eq_getElem (by omega)] at h0 ⊢
      exact h0
    refine wpOp_mono (fun a' w' h => ?_) (step i o (listF listed) a w ho hfi he hI)
    refine ih _ a' w' (by simpa using hsz) ?_ (by rw [listF_set (by omega)]; exact h)
    have : unl ops.size (listed.setIfInBounds i true) < unl ops.size listed := by
      unfold unl
      rw [listF_set (by omega)]
      refine countP_lt (i := i) _ (fun x _ hx => ?_) (List.mem_range.2 hlt) (by simp [hfi]) (by simp [upd])
      unfold upd at hx
      split at hx
      · simp at hx
      · exact hx
    omega
theorem region_inv {P : Program} {id : Nat} {ops : Array Oper} {Q : Exit → Act → World → Prop} {a : Act} {w : World} (hm : P.follows .mixedOrders = true) (I : (Nat → Bool) → Act → World → Prop)
    (dag : (List.range ops.size).all (fun i => ((ops[i]?).map fun o => o.after.all fun e => decide (e.on < i)).getD true) = true)
    (start : I (fun _ => false) a w.drew)
    (step : ∀ (i : Nat) (o : Oper) (f : Nat → Bool) (a : Act) (w : World), ops[i]? = some o → f i = false → (∀ e ∈ o.after, Region.binds .any e = true → f e.on = true) → I f a w → if Region.wanted o (yielded ops a.tmps) = true then o.wp P a w (fun a' w' => I (upd f i) a' w') Q else I (upd f i) (a.put o.dst undef) w)
    (fin : ∀ f a w, (∀ i, i < ops.size → f i = true) → I f a w → Q .normal a w) : (Code.region id ops true).wp P Q a w := by
  refine wp_region_any hm (any_inv I dag (fun i o f a w ho hf he hI => ?_) fin ops.size _ a _ (by simp) ?_ ?_)
  · have := step i o f a w ho hf he hI
    unfold wpOp
    simp only [ho]
    split
    · rename_i hw; rw [if_pos hw] at this; exact .inl this
    · rename_i hw; rw [if_neg hw] at this; exact this
  · unfold unl
    have := List.countP_le_length (p := fun i => !listF (Array.replicate ops.size false) i) (l := List.range ops.size)
    simpa using this
  · have e : listF (Array.replicate ops.size false) = fun _ => false := by
      funext j; unfold listF
      by_cases hj : j < ops.size <;> simp [hj]
    rw [e]; exact start
/-! Regions of the draws: facts on what each operation yielded, kept while only the reader's block and new blocks turn. -/
def setX (x : Nat → Value) (i : Nat) (v : Value) : Nat → Value := fun j => if j = i then v else x j
/-- what calls cost, of those that were made -/
def costF (l : List (Nat × Nat)) (f : Nat → Bool) : Nat := (l.map fun p => if f p.1 then p.2 else 0).sum
theorem cost_mono (l : List (Nat × Nat)) (f : Nat → Bool) (i : Nat) : costF l f ≤ costF l (upd f i) := by
  induction l with
  | nil => simp [costF]
  | cons p l ih =>
    simp only [costF, List.map_cons, List.sum_cons] at ih ⊢
    have : (if f p.1 = true then p.2 else 0) ≤ if upd f i p.1 = true then p.2 else 0 := by
      unfold upd
      by_cases e : p.1 = i
      · simp only [e, if_true]; split <;> omega
      · simp only [e, if_false]; exact Nat.le_refl _
    omega
theorem cost_new {l : List (Nat × Nat)} {f : Nat → Bool} {i c : Nat} (h : (i, c) ∈ l) (hf : f i = false) : costF l f + c ≤ costF l (upd f i) := by
  induction l with
  | nil => simp at h
  | cons p l ih =>
    have hm := cost_mono l f i
    simp only [costF, List.map_cons, List.sum_cons] at ih hm ⊢
    rcases List.mem_cons.1 h with rfl | h
    · simp only [hf, upd_self, if_true]; simp; omega
    · have := ih h
      have : (if f p.1 = true then p.2 else 0) ≤ if upd f i p.1 = true then p.2 else 0 := by
        unfold upd
        by_cases e : p.1 = i
        · simp only [e, if_true]; split <;> omega
        · simp only [e, if_false]; exact Nat.le_refl _
      omega
def costAll (l : List (Nat × Nat)) : Nat := (l.map fun p => p.2).sum
theorem cost_all (l : List (Nat × Nat)) (f : Nat → Bool) : costF l f ≤ costAll l := by
  induction l with
  | nil => simp [costF, costAll]
  | cons p l ih => simp only [costF, costAll, List.map_cons, List.sum_cons] at ih ⊢; split <;> omega
/-- the world of such a region: the reader is where the calls that were made brought it -/
structure DrawG (W W1 : World) (g m : Nat) (l : List (Nat × Nat)) (f : Nat → Bool) (w : World) : Prop where
  rd : ∃ q, Rd W w g q ∧ q ≤ m + costF l f
  gr : W1.grownBy w (some g)
theorem DrawG.lt {W W1 : World} {g m : Nat} {l : List (Nat × Nat)} {f : Nat → Bool} {w : World} (h : DrawG W W1 g m l f w) : g < w.heap.size := by
  obtain ⟨q, hq, _⟩ := h.rd; exact hq.lt
theorem DrawG.step {W W1 : World} {g m : Nat} {l : List (Nat × Nat)} {f : Nat → Bool} {w : World} (h : DrawG W W1 g m l f w) (i : Nat) : DrawG W W1 g m l (upd f i) w := by
  obtain ⟨q, hq, hm⟩ := h.rd
  exact ⟨⟨q, hq, Nat.le_trans hm (Nat.add_le_add_left (cost_mono l f i) m)⟩, h.gr⟩
theorem DrawG.alloc {W W1 : World} {g m : Nat} {l : List (Nat × Nat)} {f : Nat → Bool} {w : World} (h : DrawG W W1 g m l f w) (o : Obj) (i : Nat) : DrawG W W1 g m l (upd f i) (w.alloc o) := by
  obtain ⟨q, hq, hm⟩ := h.rd
  exact ⟨⟨q, hq.alloc o, Nat.le_trans hm (Nat.add_le_add_left (cost_mono l f i) m)⟩, grown_trans h.gr (grown_alloc w o _)⟩
theorem DrawG.rd' {W W1 : World} {g m : Nat} {l : List (Nat × Nat)} {f : Nat → Bool} {w : World} (h : DrawG W W1 g m l f w) : Rd W w g (m + costF l f) := by
  obtain ⟨q, hq, hm⟩ := h.rd; exact hq.more hm
theorem DrawG.call {W W1 : World} {g m : Nat} {l : List (Nat × Nat)} {f : Nat → Bool} {w w' : World} (h : DrawG W W1 g m l f w) {i c : Nat} (hi : (i, c) ∈ l) (hf : f i = false) (hr : Rd W w' g (m + costF l f + c)) (hg : w.grownBy w' (some g)) : DrawG W W1 g m l (upd f i) w' :=
  ⟨⟨_, hr, by have := cost_new hi hf; omega⟩, grown_trans h.gr hg⟩
theorem DrawG.store {W W1 : World} {g m : Nat} {l : List (Nat × Nat)} {f : Nat → Bool} {w : World} (h : DrawG W W1 g m l f w) {b : Nat} (hb : W1.heap.size ≤ b) (hg : b ≠ g) (hW : W.heap.size ≤ W1.heap.size) (j : Nat) (u : Value) : DrawG W W1 g m l f (w.setCell ⟨b, j, none⟩ u) := by
  obtain ⟨q, hq, hm⟩ := h.rd
  have hs := only_setCell' w b j u
  refine ⟨⟨q, hq.grown hs (by intro e; injection e; omega) (by intro k hk; injection hk; omega), hm⟩, ?_⟩
  exact ⟨hs.os.trans h.gr.os, hs.tape.trans h.gr.tape, hs.output.trans h.gr.output, Nat.le_trans h.gr.size hs.size, fun k hk hne => (hs.block k (Nat.lt_of_lt_of_le hk h.gr.size) (by intro e; injection e; omega)).trans (h.gr.block k hk hne)⟩
def predOf (ops : Array Oper) (i j : Nat) : Bool := ((ops[i]?).map fun o => o.after.any fun e => Region.binds .any e && e.on == j).getD false
/-- what must lie behind, step by step -/
def back (ops : Array Oper) (n : Nat) : Nat → List Nat → List Nat
  | 0, l => l
  | k + 1, l => back ops n k ((List.range n).filter fun j => l.contains j || l.any fun i => predOf ops i j)
def Closed (ops : Array Oper) (f : Nat → Bool) : Prop := ∀ i j, f i = true → predOf ops i j = true → f j = true
theorem back_true {ops : Array Oper} {n : Nat} {f : Nat → Bool} (hc : Closed ops f) : ∀ (k : Nat) (l : List Nat), (∀ i ∈ l, f i = true) → ∀ i ∈ back ops n k l, f i = true := by
  intro k
  induction k with
  | zero => intro l h; exact h
  | succ k ih =>
    intro l h
    refine ih _ (fun i hi => ?_)
    have := (List.mem_filter.1 hi).2
    simp only [Bool.or_eq_true, List.contains_iff_mem, List.any_eq_true] at this
    rcases this with h1 | ⟨q, hq, hp⟩
    · exact h i h1
    · exact hc q i (h q hq) hp
theorem pred_mem {ops : Array Oper} {i j : Nat} {o : Oper} {f : Nat → Bool} (ho : ops[i]? = some o) (hp : ∀ e ∈ o.after, Region.binds .any e = true → f e.on = true) (h : predOf ops i j = true) : f j = true := by
  unfold predOf at h
  rw [ho] at h
  simp only [Option.map_some, Option.getD_some] at h
  obtain ⟨e, he, h2⟩ := Array.any_eq_true'.1 h
  simp only [Bool.and_eq_true, beq_iff_eq] at h2
  rw [← h2.2]; exact hp e he h2.1
/-- **a region of a draw**: n operations with facts, and a last one -/
theorem draw_region {P : Program} {id n : Nat} {ops : Array Oper} {Qp : Exit → Act → World → Prop} {a : Act} {w : World} (hm : P.follows .mixedOrders = true) (hn : ops.size = n + 1) (W : World) (g m : Nat) (l : List (Nat × Nat)) (Fr : (Nat → Value) → Act) (Q : Nat → Value → World → Prop)
    (Fin : Act → World → Prop)
    (dag : (List.range ops.size).all (fun i => ((ops[i]?).map fun o => o.after.all fun e => decide (e.on < i)).getD true) = true)
    (hall : (List.range n).all (fun j => (back ops n 9 ((List.range n).filter fun j => predOf ops n j)).contains j) = true)
    (x0 : Nat → Value) (ha : a = Fr x0) (hr : Rd W w g m)
    (qmono : ∀ j v w w', j < n → Q j v w → w.grownBy w' (some g) → Q j v w')
    (step : ∀ (i : Nat) (o : Oper) (f : Nat → Bool) (x : Nat → Value) (w1 : World), i < n → ops[i]? = some o → f i = false → (∀ e ∈ o.after, Region.binds .any e = true → f e.on = true) → DrawG W w.drew g m l f w1 → (∀ j, j < n → f j = true → Q j (x j) w1) →
      ∀ K : Act → World → Prop, (∀ v w', Q i v w' → w1.grownBy w' (some g) → DrawG W w.drew g m l (upd f i) w' → K (Fr (setX x i v)) w') → if Region.wanted o (yielded ops (Fr x).tmps) = true then o.wp P (Fr x) w1 K Qp else False)
    (last : ∀ (o : Oper) (f : Nat → Bool) (x : Nat → Value) (w1 : World), ops[n]? = some o → (∀ e ∈ o.after, Region.binds .any e = true → f e.on = true) → DrawG W w.drew g m l f w1 → (∀ j, j < n → f j = true → Q j (x j) w1) →
      ∀ K : Act → World → Prop, (∀ a' w', Fin a' w' → K a' w') → if Region.wanted o (yielded ops (Fr x).tmps) = true then o.wp P (Fr x) w1 K Qp else False)
    (fin : ∀ a w, Fin a w → Qp .normal a w) : (Code.region id ops true).wp P Qp a w := by
  subst ha
  refine region_inv hm (fun f a w1 => Closed ops f ∧ (f n = true → Fin a w1 ∧ ∀ j, j < n → f j = true) ∧ (f n = false → ∃ x, a = Fr x ∧ DrawG W w.drew g m l f w1 ∧ ∀ j, j < n → f j = true → Q j (x j) w1)) dag ?_ ?_ ?_
  · exact ⟨(fun i j h => by cases h), (fun h => by cases h), (fun _ => ⟨x0, rfl, ⟨⟨m, hr.drew, by omega⟩, grown_refl _ _⟩, (fun j _ h => by cases h)⟩)⟩
  · intro i o f a w1 ho hf hp hI
    obtain ⟨hc, h1, h2⟩ := hI
    have hin : i < n + 1 := by rw [← hn]; exact (Array.getElem?_eq_some_iff.1 ho).1
    have hc' : Closed ops (upd f i) := by
      intro k j hk hj
      unfold upd at hk ⊢
      by_cases ej : j = i
      · simp [ej]
      · simp only [ej, if_false]
        by_cases ek : k = i
        · subst ek; exact pred_mem ho hp hj
        · simp only [ek, if_false] at hk; exact hc k j hk hj
    by_cases e : i = n
    · subst e
      obtain ⟨x, rfl, hG, hQ⟩ := h2 hf
      have := last o f x w1 ho hp hG hQ Fin (fun _ _ h => h)
      split at this
      · rename_i hw
        rw [if_pos hw]
        refine Oper.wp_mono (fun a' w' h => ⟨hc', (fun _ => ⟨h, fun j hj => ?_⟩), (fun h2 => by rw [upd_self] at h2; cases h2)⟩) this
        rw [upd_ne (by omega)]
        have h3 := List.all_eq_true.1 hall j (List.mem_range.2 hj)
        refine back_true hc 9 _ (fun k hk => ?_) j (by simpa using h3)
        exact pred_mem ho hp (List.mem_filter.1 hk).2
      · exact this.elim
    · rcases hfn : f n with _ | _
      · obtain ⟨x, rfl, hG, hQ⟩ := h2 hfn
        have := step i o f x w1 (by omega) ho hf hp hG hQ (fun a' w' => ∃ v, a' = Fr (setX x i v) ∧ Q i v w' ∧ w1.grownBy w' (some g) ∧ DrawG W w.drew g m l (upd f i) w') (fun v w' h1 h2 h3 => ⟨v, rfl, h1, h2, h3⟩)
        split at this
        · rename_i hw
          rw [if_pos hw]
          refine Oper.wp_mono (fun a' w' h => ?_) this
          obtain ⟨v, rfl, hq, hg, hG'⟩ := h
          refine ⟨hc', (fun h2 => by rw [upd_ne (Ne.symm e), hfn] at h2; cases h2), fun _ => ⟨_, rfl, hG', fun j hj hfj => ?_⟩⟩
          by_cases e2 : j = i
          · subst e2; simpa [setX] using hq
          · rw [upd_ne e2] at hfj
            simpa [setX, e2] using qmono j _ _ _ hj (hQ j hj hfj) hg
        · exact this.elim
      · exfalso
        have := (h1 hfn).2 i (by omega)
        rw [hf] at this; cases this
  · intro f a w1 hf h
    exact fin a w1 (h.2.1 (hf n (by omega))).1
/-- an item that came in -/
def ArgIt (k t b : ByteArray) (d : Int) : Prop := k.size ≤ maxLen ∧ t.size ≤ maxLen ∧ b.size ≤ maxLen ∧ (Lit.int .i64 d).wf = true
/-- a variable of four cells, as it was made, behind whatever kept it -/
theorem row4 {w w1 wX : World} {a b c d : Value} {T : TypeId} (hw : w.alloc (.cells #[a, b, c, d] T) = w1) (hB : Below w1.heap.size w1 wX) :
    wX.cell? ⟨w.heap.size, 0, none⟩ = some a ∧ wX.cell? ⟨w.heap.size, 1, none⟩ = some b ∧ wX.cell? ⟨w.heap.size, 2, none⟩ = some c ∧ wX.cell? ⟨w.heap.size, 3, none⟩ = some d := by
  subst hw
  have hX := (hB.block w.heap.size (by simp)).trans (heap_alloc_new w (.cells #[a, b, c, d] T))
  exact ⟨cell_of_row _ w.heap.size 0 _ _ (0, 0) hX, cell_of_row _ w.heap.size 1 _ _ (0, 0) hX, cell_of_row _ w.heap.size 2 _ _ (0, 0) hX, cell_of_row _ w.heap.size 3 _ _ (0, 0) hX⟩
end Go.Proofs.Ythniiknhbhoncaa
