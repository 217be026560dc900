/-
  The verifier's own text: ItemMath.
-/
import Derived.Test.YtfbkloogbpckkaaGa
import Derived.WalkKit
import Derived.Lib.Hide
namespace Go.Proofs.Ytfbkloogbpckkaa
open Go.RowKit
set_option linter.unusedVariables false
/-- an item: key, title, text, day -/
structure It where
  key : ByteArray
  title : ByteArray
  body : ByteArray
  day : Int
def It.zero : It := ⟨⟨#[]⟩, ⟨#[]⟩, ⟨#[]⟩, 0⟩
def dayB (d : Int) : Bool := decide (0 ≤ d ∧ d ≤ 1460969)
def itB (i : It) : Bool := wordB i.key.data.toList && textB i.title.data.toList && decide (i.title.size ≠ 0) && textB i.body.data.toList && dayB i.day
def kKey : ByteArray := ⟨#[107, 101, 121]⟩
def kTitle : ByteArray := ⟨#[116, 105, 116, 108, 101]⟩
def kBody : ByteArray := ⟨#[98, 111, 100, 121]⟩
def kDay : ByteArray := ⟨#[100, 97, 121]⟩
def kOther : ByteArray := ⟨#[111, 116, 104, 101, 114]⟩
/-- the elements that an item is written by -/
def itE (i : It) : EL := [(kKey, i.key), (kTitle, i.title), (kBody, i.body), (kDay, bs (dateT i.day))]
def itT (i : It) : List UInt8 := if itB i then elT (itE i) else []
/-- how many elements have a name -/
def cntE (L : EL) (n : ByteArray) : Nat := L.countP fun e => decide (e.1 = n)
def fstE (L : EL) (n : ByteArray) : ByteArray := (elX1 L n).1
/-- the item that elements stand for -/
def itOf (L : EL) : It := ⟨fstE L kKey, fstE L kTitle, fstE L kBody, readD (fstE L kDay).data.toList⟩
def cntOk (L : EL) : Bool := decide (cntE L kKey = 1) && decide (cntE L kTitle = 1) && decide (cntE L kDay = 1) && decide (cntE L kBody ≤ 1)
def itR (L : EL) : It × Bool := if cntOk L && itB (itOf L) then (itOf L, true) else (It.zero, false)
theorem itT_in {i : It} (h : itB i = true) : itT i = elT (itE i) := by simp [itT, h]
theorem itT_out {i : It} (h : itB i = false) : itT i = [] := by simp [itT, h]
theorem itR_in {L : EL} (h : cntOk L = true) (h' : itB (itOf L) = true) : itR L = (itOf L, true) := by simp [itR, h, h']
theorem itR_cnt {L : EL} (h : cntOk L = false) : itR L = (It.zero, false) := by simp [itR, h]
theorem itR_bad {L : EL} (h' : itB (itOf L) = false) : itR L = (It.zero, false) := by simp [itR, h']
theorem itB_of {i : It} (h : itB i = true) : wordB i.key.data.toList = true ∧ textB i.title.data.toList = true ∧ i.title.size ≠ 0 ∧ textB i.body.data.toList = true ∧ dayB i.day = true := by
  unfold itB at h; simp only [Bool.and_eq_true, decide_eq_true_eq] at h; exact ⟨h.1.1.1.1, h.1.1.1.2, h.1.1.2, h.1.2, h.2⟩
theorem itB_mk {i : It} (a : wordB i.key.data.toList = true) (b : textB i.title.data.toList = true) (c : i.title.size ≠ 0) (d : textB i.body.data.toList = true) (e : dayB i.day = true) : itB i = true := by
  unfold itB; simp [a, b, c, d, e]
theorem itB_key {i : It} (h : wordB i.key.data.toList = false) : itB i = false := by simp [itB, h]
theorem itB_title {i : It} (h : textB i.title.data.toList = false) : itB i = false := by simp [itB, h]
theorem itB_empty {i : It} (h : i.title.size = 0) : itB i = false := by simp [itB, h]
theorem itB_body {i : It} (h : textB i.body.data.toList = false) : itB i = false := by simp [itB, h]
theorem itB_day {i : It} (h : dayB i.day = false) : itB i = false := by simp [itB, h]
theorem dayB_in {d : Int} (h : dayB d = true) : 0 ≤ d ∧ d ≤ 1460969 := by simpa [dayB] using h
theorem dayB_out {d : Int} (h : dayB d = false) : d < 0 ∨ 1460969 < d := by simp [dayB] at h; omega
theorem dayT_ten {d : Int} (h : dayB d = true) : (dateT d).length = 10 ∧ readD (dateT d) = d := by
  obtain ⟨h0, h1⟩ := dayB_in h
  obtain ⟨y, m, q, hd, rfl⟩ := date_of h0 h1
  rw [dateT_of hd]
  exact ⟨dateL_len _ _ _, readD_date hd⟩
theorem dayT_none {d : Int} (h : dayB d = false) : dateT d = [] := dateT_out (dayB_out h)
theorem wc_tc {c : UInt8} (h : wcB c = true) : tcB c = true := by
  unfold wcB at h
  simp only [Bool.or_eq_true] at h
  unfold tcB
  rcases h with h | h
  · have := digI_bd h; simp; omega
  · have := smlI_bd h; simp; omega
theorem word_text {l : List UInt8} (h : wordB l = true) : textB l = true := by
  have hl := word_len h
  unfold wordB at h
  simp only [Bool.and_eq_true, List.all_eq_true] at h
  unfold textB
  simp only [Bool.and_eq_true, decide_eq_true_eq, List.all_eq_true]
  exact ⟨by omega, fun c m => wc_tc (h.2 c m)⟩
theorem dg_tc (n : Int) (a : 0 ≤ n) (b : n ≤ 9) : tcB (dg n) = true := by
  have := dg_toNat a b; unfold tcB; simp; omega
theorem date_text (d : Int) : textB (dateT d) = true := by
  rcases h : dayB d with _ | _
  · rw [dayT_none h]; rfl
  · obtain ⟨h0, h1⟩ := dayB_in h
    obtain ⟨y, m, q, hd, rfl⟩ := date_of h0 h1
    rw [dateT_of hd]
    have r := isD_rng hd
    have t46 : tcB 46 = true := by decide
    unfold textB dateL
    simp only [List.all_cons, List.all_nil, t46, dg_tc (y / 1000) (by omega) (by omega), dg_tc (y / 100 % 10) (by omega) (by omega), dg_tc (y / 10 % 10) (by omega) (by omega), dg_tc (y % 10) (by omega) (by omega), dg_tc (m / 10) (by omega) (by omega), dg_tc (m % 10) (by omega) (by omega), dg_tc (q / 10) (by omega) (by omega), dg_tc (q % 10) (by omega) (by omega)]
    rfl
theorem itE_ok {i : It} (h : itB i = true) : ∀ e ∈ itE i, okE e = true := by
  obtain ⟨a, b, _, d, _⟩ := itB_of h
  have w1 : wordB kKey.data.toList = true := by decide
  have w2 : wordB kTitle.data.toList = true := by decide
  have w3 : wordB kBody.data.toList = true := by decide
  have w4 : wordB kDay.data.toList = true := by decide
  intro e m
  simp only [itE, List.mem_cons, List.not_mem_nil, or_false] at m
  rcases m with rfl | rfl | rfl | rfl
  · exact okE_both w1 (word_text a)
  · exact okE_both w2 b
  · exact okE_both w3 d
  · exact okE_both w4 (by rw [bs_data]; exact date_text _)
theorem itE_valid {i : It} (h : itB i = true) : elB (itE i) = true := elB_of (by simp [itE]) (itE_ok h)
theorem kO_word : wordB kOther.data.toList = true := by decide
theorem itO_valid {i : It} {x : ByteArray} (h : itB i = true) (hx : textB x.data.toList = true) : elB ((kOther, x) :: itE i) = true :=
  elB_of (by simp [itE]) (fun e m => by
    rcases List.mem_cons.1 m with rfl | m
    · exact okE_both kO_word hx
    · exact itE_ok h e m)
theorem itT_elL {i : It} (h : itB i = true) : itT i = elL (itE i) := by rw [itT_in h, elT_in (itE_valid h)]
theorem itT_len (i : It) : (itT i).length ≤ 4008 := by
  unfold itT; split
  · exact elT_len _
  · simp
theorem k12 : kKey ≠ kTitle := by decide
theorem k13 : kKey ≠ kBody := by decide
theorem k14 : kKey ≠ kDay := by decide
theorem k23 : kTitle ≠ kBody := by decide
theorem k24 : kTitle ≠ kDay := by decide
theorem k34 : kBody ≠ kDay := by decide
theorem k01 : kOther ≠ kKey := by decide
theorem k02 : kOther ≠ kTitle := by decide
theorem k03 : kOther ≠ kBody := by decide
theorem k04 : kOther ≠ kDay := by decide
theorem itE_cnt (i : It) : cntOk (itE i) = true := by
  simp [cntOk, cntE, itE, k12, k13, k14, k23, k24, k34, k12.symm, k13.symm, k14.symm, k23.symm, k24.symm, k34.symm]
theorem itO_cnt (i : It) (x : ByteArray) : cntOk ((kOther, x) :: itE i) = true := by
  simp [cntOk, cntE, itE, k12, k13, k14, k23, k24, k34, k12.symm, k13.symm, k14.symm, k23.symm, k24.symm, k34.symm, k01, k02, k03, k04]
theorem itE_of {i : It} (h : itB i = true) : itOf (itE i) = i := by
  have hd := (dayT_ten (itB_of h).2.2.2.2).2
  simp [itOf, fstE, itE, elX1, k12, k13, k14, k23, k24, k34, bs_data, hd]
theorem itO_of {i : It} (x : ByteArray) (h : itB i = true) : itOf ((kOther, x) :: itE i) = i := by
  have hd := (dayT_ten (itB_of h).2.2.2.2).2
  simp [itOf, fstE, itE, elX1, k12, k13, k14, k23, k24, k34, k01, k02, k03, k04, bs_data, hd]
theorem itR_itE {i : It} (h : itB i = true) : itR (itE i) = (i, true) := by rw [itR_in (itE_cnt i) (by rw [itE_of h]; exact h), itE_of h]
theorem itR_itO {i : It} (x : ByteArray) (h : itB i = true) : itR ((kOther, x) :: itE i) = (i, true) := by rw [itR_in (itO_cnt i x) (by rw [itO_of x h]; exact h), itO_of x h]
theorem itR_nil : itR [] = (It.zero, false) := itR_cnt (by simp [cntOk, cntE])
theorem cnt_snoc (L : EL) (n x : ByteArray) : cntE (L ++ [(n, x)]) n = cntE L n + 1 := by simp [cntE]
/-- a second key is refused -/
theorem itR_twice {L : EL} (x : ByteArray) (h : (itR L).2 = true) : itR (L ++ [(kKey, x)]) = (It.zero, false) := by
  rcases hc : cntOk L with _ | _
  · rw [itR_cnt hc] at h; cases h
  · apply itR_cnt
    have h1 : cntE L kKey = 1 := by unfold cntOk at hc; simp at hc; exact hc.1.1.1
    unfold cntOk
    rw [cnt_snoc, h1]; rfl
theorem itR_ok {L : EL} {i : It} (h : itR L = (i, true)) : itB i = true ∧ i = itOf L := by
  unfold itR at h
  split at h
  · rename_i q
    have : itOf L = i := by cases h; rfl
    rw [← this]; simp only [Bool.and_eq_true] at q; exact ⟨q.2, rfl⟩
  · cases h
theorem itR_zero {L : EL} {i : It} (h : itR L = (i, false)) : i = It.zero := by
  unfold itR at h
  split at h
  · cases h
  · cases h; rfl
theorem cnt_take {L : EL} {n : ByteArray} {k : Nat} (h : k < L.length) : cntE (L.take (k + 1)) n = cntE (L.take k) n + if L[k].1 = n then 1 else 0 := by
  unfold cntE
  rw [List.take_succ_eq_append_getElem h, List.countP_append]
  by_cases e : L[k].1 = n <;> simp [e]
theorem fst_size {L : EL} {n : ByteArray} (h : elB L = true) : (fstE L n).size ≤ 80 := by
  unfold fstE
  have : ∀ M : EL, (∀ e ∈ M, okE e = true) → (elX1 M n).1.size ≤ 80 := by
    intro M
    induction M with
    | nil => intro _; exact Nat.zero_le _
    | cons e M ih =>
      intro hM
      unfold elX1
      split
      · have := textB_len (okE_of (hM e (by simp))).2; rw [blen] at this; exact this
      · exact ih (fun x m => hM x (by simp [m]))
  exact this L (elB_mem h)
theorem elX_fst {L : EL} {n : ByteArray} (h : elB L = true) : (elX L n).1 = fstE L n := by rw [elX_in n h]; rfl
end Go.Proofs.Ytfbkloogbpckkaa
