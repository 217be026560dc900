/-
  The verifier's own text: RdEI.
-/
import Derived.Test.YtoiglenodiomhaaRows
import Derived.Test.YtoiglenodiomhaaScanI
import Derived.Test.YtoiglenodiomhaaOwnE
import Derived.WalkKit
import Derived.ProofKit
import Derived.Below
import Derived.Lib.Hide
import Derived.Outline
import Derived.BigQuiet
import Derived.Deep.QuietTactic
import Derived.Deep.Draws
import Derived.Laws.OwnMore
import Derived.Laws.Rows
import Derived.WalkSpells
import Derived.Deep.RegionWith
namespace Go.Proofs.Ytoiglenodiomhaa
open Go.RowKit
set_option linter.unusedVariables false
theorem make_elems {ops : Array Oper} {rest : List Oper} {o : Oper} {a : Act} {Q : Exit → Act → World → Prop} {w : World} (hg : o.guard = none) (l c : Operand) (hop : o.op = Op.makeSlice 23 l c)
    (W : World) (hb : Below W.heap.size W w) (n : Nat) (hl : a.eval l = .int .i64 0) (hc : a.eval c = .int .i64 n) (hn : n ≤ 1073741824)
    (hK : ∀ v w', OwnE w' W.heap.size v [] → Below W.heap.size W w' → wpList Try.prog ops Q rest (a.put o.dst v) w') : wpList Try.prog ops Q (o :: rest) a w := by
  obtain ⟨i0, hi, hz0, hz1, hz2⟩ := info_parts infoE
  have hsz := hb.size
  refine wpList_make_own w hg l c 23 hop W.heap.size 27 i0 _ 2 Try.underlying23 hi hz0 hz1 .i64 .i64 n n hl hc rfl ?_ ?_ hsz ?_
  · rw [hz2]; omega
  · unfold maxLen; omega
  · intro w' h1 h2
    exact hK _ w' h1 (hb.grown h2 hsz (fun k hk => by cases hk))
theorem ownE_nil (w W : World) : OwnE w W.heap.size (.slice none 0 0) [] := ownG_nil _ _ _ _ _
/-- one more was read -/
theorem rdI_step {s : ByteArray} {k n : Nat} {out : EL} {x : ByteArray × ByteArray} (hout : elL out = s.data.toList.take k) (hok : ∀ e ∈ out, okE e = true) (h1 : (s.extract k s.size).data.toList.take n = elT1 x) (h2 : okE x = true) :
    elL (out ++ [x]) = s.data.toList.take (k + n) ∧ ∀ e ∈ out ++ [x], okE e = true := by
  constructor
  · rw [elL_snoc, hout, List.take_add, ← ext_drop, h1]
  · intro e m
    rcases List.mem_append.1 m with m | m
    · exact hok e m
    · have : e = x := by simpa using m
      subst this; exact h2
/-- whoever is written so goes on after what was read -/
theorem rdI_must {s : ByteArray} {k : Nat} {out : EL} (hlt : k < s.size) (hout : elL out = s.data.toList.take k) (hok : ∀ e ∈ out, okE e = true) {L' : EL} (hv : elB L' = true) (he : elL L' = s.data.toList) :
    out.length < 8 ∧ ∃ x r, okE x = true ∧ (s.extract k s.size).data.toList = elT1 x ++ r := by
  obtain ⟨L2, e1, e2⟩ := elL_pre out L' (s.data.toList.drop k) (fun e m => good_of (hok e m)) (elB_good hv) (by rw [hout, he, List.take_append_drop])
  have hdl : (s.data.toList.drop k).length = s.size - k := by rw [List.length_drop, blen]
  cases L2 with
  | nil => rw [elL_nil] at e2; rw [← e2] at hdl; simp at hdl; omega
  | cons e L3 =>
    refine ⟨?_, e, elL L3, elB_mem hv e (by rw [e1]; simp), ?_⟩
    · have := elB_len hv; rw [e1] at this; simp at this; omega
    · rw [ext_drop, ← e2, elL_cons]
set_option maxHeartbeats 4000000 in
theorem rdI_elems (s : ByteArray) (w : World) (hs : s.size ≤ 90000000) :
    Calls Try.prog 18 #[.string s] w (GotEL s.data.toList w) := by
  go_enter Try.func18, Try.ntmps18
  go_wp2_with (at_make; refine make_elems rfl _ _ rfl w (Below.refl _ _) 8 rfl rfl (by omega) ?_; intro v0 w1 hown0 hb0)
  have hown0 := Lib.hid hown0
  have hb0 := Lib.hid hb0
  go_loopw [4, 5] (fun v i wr => ∃ (k : Nat) (x : Value) (out : EL), k ≤ s.size ∧ i = .int .i64 k ∧ x = v ∧ out.length ≤ 8 ∧ Hid (elL out = s.data.toList.take k) ∧ Hid (∀ e ∈ out, okE e = true) ∧ Hid (OwnE wr w.heap.size x out) ∧ Hid (Below w.heap.size w wr)) (fun _ i _ => s.size - (intOf i).toNat)
  case atStart => exact ⟨0, _, [], Nat.zero_le _, rfl, rfl, by simp, Lib.hid rfl, Lib.hid (by simp), hown0, hb0⟩
  case round =>
    obtain ⟨k, x, out, hk, rfl, rfl, h8, hout, hok, hown, hbr⟩ := hrel
    by_cases hlt : k < s.size
    · obtain ⟨A, c, rfl⟩ := OwnE.shape hown.out
      have hmust := Lib.hid (fun L' hv he => rdI_must (L' := L') hlt hout.out hok.out hv he)
      have hx1 : (s.extract k s.size).size ≤ 100000000 := by rw [ByteArray.size_extract]; omega
      have hsx := Lib.hid (show (s.extract k s.size).size = s.size - k by rw [ByteArray.size_extract]; omega)
      go_wp2_with fail
      refine (scanEl_any _ _ hx1).mono ?_
      rintro e w2 ⟨(⟨x, n, h1, h2, h3, h4, rfl⟩ | ⟨rfl, hno⟩), hb2⟩
      · obtain ⟨nm, tx⟩ := x
        have h3 := Lib.hid h3
        have h4 := Lib.hid h4
        have hbw := Lib.hid (below_trans' hbr.out hb2)
        have hown2 := Lib.hid (OwnG.grown hown.out hb2)
        have hb2 := Lib.hid hb2
        have hsz2 := hbw.out.size
        rw [hsx.out] at h2
        have n0 : ((n : Int) == 0) = false := by rw [beq_eq_false_iff_ne]; omega
        have n1 : ¬ ((n : Int) = 0) := by omega
        by_cases hfull : out.length = 8
        · have HR := Lib.hid (rdE_no (s := s.data.toList) (fun L' hv h2 => absurd (hmust.out L' hv h2).1 (by omega)))
          have b5 : ((out.length : Int) == 8) = true := by rw [hfull]; rfl
          have p5 : (out.length : Int) = 8 := by omega
          clear hfull
          go_wp2
          go_ret2
          exact ⟨_, [], false, rfl, HR.out, ownE_nil _ w, hbw.out.alloc hsz2 _⟩
        · have b5 : ((out.length : Int) == 8) = false := by rw [beq_eq_false_iff_ne]; omega
          have p5 : ¬ ((out.length : Int) = 8) := by omega
          have HS := Lib.hid (rdI_step hout.out hok.out h3.out h4.out)
          have HL : Hid ((out ++ [(nm, tx)]).length ≤ 8) := Lib.hid (by simp; omega)
          have hol : out.length ≤ 1073741824 := by omega
          have hkn : k + n ≤ s.size := by omega
          have hownX := Lib.hid (OwnG.grown hown2.out ((Below.refl w2.heap.size w2).alloc (Nat.le_refl _) (.cells #[.string nm, .string tx] 27)))
          have hbX := Lib.hid (hbw.out.alloc hsz2 (.cells #[.string nm, .string tx] 27))
          have hgz := Lib.hid (show (w2.alloc (.cells #[.string nm, .string tx] 27)).heap.size = w2.heap.size + 1 by simp)
          clear hfull
          go_wp2_with (at_builtin; refine app_elem rfl (.tmp 27) (.tmp 29) rfl w _ out nm tx rfl hownX.out hbX.out _ hgz.out rfl hol ?_; intro v1 w5 hown5 hb5)
          go_roundw
          case rel => exact ⟨k + n, _, _, hkn, by go_num, rfl, HL.out, Lib.hid HS.out.1, Lib.hid HS.out.2, Lib.hid hown5, Lib.hid hb5⟩
          case measure => simp [intOf]; omega
      · have HR := Lib.hid (rdE_no (s := s.data.toList) (fun L' hv he => by
          obtain ⟨_, x, r, hx, hxr⟩ := hmust.out L' hv he
          exact hno x r hx hxr))
        have hbw := Lib.hid (below_trans' hbr.out hb2)
        have hb2 := Lib.hid hb2
        have hsz2 := hbw.out.size
        clear hno
        go_wp2
        go_ret2
        exact ⟨_, [], false, rfl, HR.out, ownE_nil _ w, hbw.out.alloc hsz2 _⟩
    · have HR : Hid (RdE s.data.toList out true) := Lib.hid ((rdE_end (by rw [hout.out, bfull s k (by omega)]) (fun e m => good_of (hok.out e m))).1 (elB_of h8 hok.out))
      go_wp2
      go_ret2
      exact ⟨_, out, true, rfl, HR.out, hown.out, hbr.out⟩
end Go.Proofs.Ytoiglenodiomhaa
