/-
  The verifier's own text: ReadES.
-/
import Derived.Test.YteknjaocamlcpaaRows
import Derived.Test.YteknjaocamlcpaaGi
import Derived.Test.YteknjaocamlcpaaGd
import Derived.WalkKit
import Derived.ProofKit
import Derived.Below
import Derived.Lib.Hide
import Derived.Outline
import Derived.BigQuiet
import Derived.Deep.QuietTactic
import Derived.Deep.Draws
import Derived.Laws.OwnMore
import Derived.Laws.Rows
import Derived.WalkSpells
import Derived.Deep.RegionWith
namespace Go.Proofs.Yteknjaocamlcpaa
open Go.RowKit
set_option linter.unusedVariables false
theorem scan0 {s : ByteArray} {k : Nat} (hlt : k < s.size) (F : ∀ i (hi : i < s.size), k + 1 ≤ i → i < s.size → s[i] ≠ 62) : Scan s k s.size s.size s.size :=
  ⟨by omega, Nat.le_refl _, F, .inl rfl, Nat.le_refl _, Nat.le_refl _, by intro i hi a b; omega, .inl rfl, Nat.le_refl _, Nat.le_refl _, by intro i hi a b; omega, .inl rfl⟩
theorem scan1 {s : ByteArray} {k nm : Nat} (n1 : k + 1 ≤ nm) (hn : nm < s.size) (n3 : ∀ i (hi : i < s.size), k + 1 ≤ i → i < nm → s[i] ≠ 62) (hc : s[nm] = 62) (F : ∀ i (hi : i < s.size), nm ≤ i → i < s.size → s[i] ≠ 60) : Scan s k nm s.size s.size :=
  ⟨n1, by omega, n3, .inr ⟨hn, hc⟩, by omega, Nat.le_refl _, F, .inl rfl, Nat.le_refl _, Nat.le_refl _, by intro i hi a b; omega, .inl rfl⟩
theorem scan2 {s : ByteArray} {k nm en la : Nat} (n1 : k + 1 ≤ nm) (hn : nm < s.size) (n3 : ∀ i (hi : i < s.size), k + 1 ≤ i → i < nm → s[i] ≠ 62) (hc : s[nm] = 62)
    (e1 : nm ≤ en) (he : en < s.size) (e3 : ∀ i (hi : i < s.size), nm ≤ i → i < en → s[i] ≠ 60) (hd : s[en] = 60) (l1 : en ≤ la) (l2 : la ≤ s.size) (l3 : ∀ i (hi : i < s.size), en ≤ i → i < la → s[i] ≠ 62) (l4 : la = s.size ∨ ∃ h : la < s.size, s[la] = 62) : Scan s k nm en la :=
  ⟨n1, by omega, n3, .inr ⟨hn, hc⟩, e1, by omega, e3, .inr ⟨he, hd⟩, l1, l2, l3, l4⟩
theorem scan_next {s : ByteArray} {p k : Nat} {c : UInt8} (hk : k < s.size) (h : s[k] ≠ c) (F : ∀ i (hi : i < s.size), p ≤ i → i < k → s[i] ≠ c) : ∀ i (hi : i < s.size), p ≤ i → i < k + 1 → s[i] ≠ c := fun i hi a b => by
  by_cases q : i = k
  · subst q; exact h
  · exact F i hi a (by omega)
theorem own_empty2 (w W : World) (o : Obj) (n : Nat) (h : W.heap.size ≤ w.heap.size) : OwnE (((w.alloc o).drewN n).alloc (.cells #[] 72)) W.heap.size (.slice (some ⟨w.heap.size + 1, 0, none⟩) 0 0) [] := by
  have e : ((w.alloc o).drewN n).heap.size = w.heap.size + 1 := by show (w.alloc o).heap.size = _; simp
  rw [← e]; exact own_empty _ W (by rw [e]; omega)
theorem size_dn {B : Nat} (w : World) (o : Obj) (n : Nat) (h : B ≤ w.heap.size) : B ≤ ((w.alloc o).drewN n).heap.size := by
  show _ ≤ (w.alloc o).heap.size; simp; omega
set_option maxRecDepth 100000 in
set_option maxHeartbeats 16000000 in
theorem rdS_elems (s : ByteArray) (w : World) (hs : s.size ≤ 90000000) :
    Calls Try.prog 75 #[.string s] w (GotEL s.data.toList w) := by
  go_enter Try.func75, Try.ntmps75
  go_wp2
  have hown0 := Lib.hid (own_empty w w (Nat.le_refl _))
  have hb0 : Hid (Below w.heap.size w (w.alloc (.cells #[] 72))) := Lib.hid ((Below.refl _ _).alloc (Nat.le_refl _) _)
  go_loopw [4, 5] (fun v i wr => ∃ (k : Nat) (x : Value) (out : EL), k ≤ s.size ∧ i = .int .i64 k ∧ x = v ∧ out.length ≤ 8 ∧ Hid (elL out = s.data.toList.take k) ∧ Hid (∀ e ∈ out, goodE e) ∧ Hid (FitE out) ∧ Hid (OwnE wr w.heap.size x out) ∧ Hid (Below w.heap.size w wr)) (fun _ i _ => s.size - (intOf i).toNat)
  case atStart => exact ⟨0, _, [], Nat.zero_le _, rfl, rfl, by simp, Lib.hid rfl, Lib.hid (by simp), Lib.hid (by intro e m; simp at m), hown0, hb0⟩
  case round =>
    obtain ⟨k, x, out, hk, rfl, rfl, h8, hout, hg, hfit, hown, hbr⟩ := hrel
    by_cases hlt : k < s.size
    · obtain ⟨A, c, rfl⟩ := OwnE.shape hown.out
      have hmust := Lib.hid (fun nm en la (sc : Scan s k nm en la) L' hv he => rd_must (L' := L') hlt sc hout.out hg.out hv he)
      go_wp2
      go_loopw [6] (fun i w2 => ∃ p : Nat, k + 1 ≤ p ∧ p ≤ s.size ∧ i = .int .i64 p ∧ Hid (∀ i (hi : i < s.size), k + 1 ≤ i → i < p → s[i] ≠ 62) ∧ wr = w2) (fun i _ => s.size - (intOf i).toNat)
      case atStart => exact ⟨k + 1, by omega, by omega, by go_num, Lib.hid (by intro i hi a b; omega), rfl⟩
      case round =>
        obtain ⟨nm, n1, n2, rfl, n3, rfl⟩ := hrel
        by_cases hn : nm < s.size
        · by_cases hc : s[nm] = 62
          · have b1 : ((s[nm].toNat : Int) == 62) = true := by rw [hc]; rfl
            have hc := Lib.hid hc
            go_wp2
            go_loopw [7] (fun i w2 => ∃ p : Nat, nm ≤ p ∧ p ≤ s.size ∧ i = .int .i64 p ∧ Hid (∀ i (hi : i < s.size), nm ≤ i → i < p → s[i] ≠ 60) ∧ wr = w2) (fun i _ => s.size - (intOf i).toNat)
            case atStart => exact ⟨nm, by omega, by omega, by go_num, Lib.hid (by intro i hi a b; omega), rfl⟩
            case round =>
              obtain ⟨en, e1, e2, rfl, e3, rfl⟩ := hrel
              by_cases he : en < s.size
              · by_cases hd : s[en] = 60
                · have b2 : ((s[en].toNat : Int) == 60) = true := by rw [hd]; rfl
                  have hne : nm + 1 ≤ en := by
                    rcases Nat.lt_or_ge nm en with q | q
                    · exact q
                    · have q2 : en = nm := by omega
                      subst q2; rw [hc.out] at hd; exact absurd hd (by decide)
                  have hd := Lib.hid hd
                  go_wp2
                  go_loopw [8] (fun i w2 => ∃ p : Nat, en ≤ p ∧ p ≤ s.size ∧ i = .int .i64 p ∧ Hid (∀ i (hi : i < s.size), en ≤ i → i < p → s[i] ≠ 62) ∧ wr = w2) (fun i _ => s.size - (intOf i).toNat)
                  case atStart => exact ⟨en, by omega, by omega, by go_num, Lib.hid (by intro i hi a b; omega), rfl⟩
                  case round =>
                    obtain ⟨la, l1, l2, rfl, l3, rfl⟩ := hrel
                    by_cases hl : la < s.size
                    · by_cases hf : s[la] = 62
                      · have b3 : ((s[la].toNat : Int) == 62) = true := by rw [hf]; rfl
                        have sc := scan2 n1 hn n3.out hc.out e1 he e3.out hd.out l1 l2 l3.out (.inr ⟨hl, hf⟩)
                        have must := Lib.hid (hmust.out nm en la sc)
                        have hsc := Lib.hid sc
                        clear hf sc
                        have b6 : ((la : Int) == (s.size : Int)) = false := by rw [beq_eq_false_iff_ne]; omega
                        have p6 : ¬ ((la : Int) = (s.size : Int)) := by omega
                        by_cases h60 : s[k] = 60
                        · have b4 : ((s[k].toNat : Int) == 60) = true := by rw [h60]; rfl
                          have p4 : (s[k].toNat : Int) = 60 := by rw [h60]; rfl
                          by_cases hfull : out.length = 8
                          · have HR := Lib.hid (rdE_no (s := s.data.toList) (fun L' hv h2 => absurd (must.out L' hv h2).2.2.1 (by omega)))
                            have b5 : ((out.length : Int) == 8) = true := by rw [hfull]; rfl
                            have p5 : (out.length : Int) = 8 := by omega
                            clear h60 hfull
                            go_wp2
                            go_ret2
                            exact ⟨_, [], false, rfl, HR.out, own_empty wr w hbr.out.size, hbr.out.alloc hbr.out.size _⟩
                          · have b5 : ((out.length : Int) == 8) = false := by rw [beq_eq_false_iff_ne]; omega
                            have p5 : ¬ ((out.length : Int) = 8) := by omega
                            have h60 := Lib.hid h60
                            clear hfull
                            have hx1 : (s.extract (nm + 1) en).size ≤ 100000000 := by rw [ByteArray.size_extract]; omega
                            obtain ⟨q, hq⟩ : ∃ q, unT (s.extract (nm + 1) en).data.toList = q := ⟨_, rfl⟩
                            obtain ⟨t, ok⟩ := q
                            have HQ := Lib.hid hq
                            clear hq
                            go_wp2_with (go_at_call 96; refine (unS_any _ _ hx1).mono ?_; rintro e w4 ⟨rfl, hb4⟩; rw [HQ.out]; have hb4 := Lib.hid hb4)
                            have hown4 := Lib.hid (OwnG.grown hown.out hb4.out)
                            have hbw4 := Lib.hid (below_trans' hbr.out hb4.out)
                            have hsz4 := hbw4.out.size
                            rcases ok with _ | _
                            · have HR := Lib.hid (rdE_no (s := s.data.toList) (fun L' hv h2 => by
                                obtain ⟨t', ht'⟩ := (must.out L' hv h2).2.2.2.1
                                rw [HQ.out] at ht'; cases ht'))
                              go_quiet (fail)
                              go_wp2
                              go_ret2
                              exact ⟨_, [], false, rfl, HR.out, own_empty2 w4 w _ _ hsz4, Below.alloc (Below.drawn (hbw4.out.alloc hsz4 _) _) (size_dn _ _ _ hsz4) _⟩
                            · have z0 : (s.extract (k + 1) nm).size ≤ s.size := by rw [ByteArray.size_extract]; omega
                              have z3 : (⟨#[60, 47]⟩ : ByteArray).size = 2 := rfl
                              have z4 : (⟨#[62]⟩ : ByteArray).size = 1 := rfl
                              have z1 : (⟨#[60, 47]⟩ : ByteArray).size + (s.extract (k + 1) nm).size ≤ 9223372036854775807 := by omega
                              have z2 : (⟨#[60, 47]⟩ ++ s.extract (k + 1) nm : ByteArray).size + (⟨#[62]⟩ : ByteArray).size ≤ 9223372036854775807 := by rw [ByteArray.size_append]; omega
                              have i1 := IntWalk.i64_in ((la : Int) + 1) (by omega)
                              have i2 : ((la : Int) + 1).toNat = la + 1 := by omega
                              have i3 : (0 : Int) ≤ (la : Int) + 1 := by omega
                              have i4 : en ≤ la + 1 := by omega
                              have i5 : la + 1 ≤ s.size := by omega
                              by_cases hx : s.extract en (la + 1) = ⟨#[60, 47]⟩ ++ s.extract (k + 1) nm ++ ⟨#[62]⟩
                              · have HS := Lib.hid (rd_step hlt hsc.out hout.out hg.out hl h60.out hne HQ.out hx)
                                have HF : Hid (FitE (out ++ [(s.extract (k + 1) nm, bs t)])) := Lib.hid (by
                                  intro e m
                                  have hge := HS.out.2 e m
                                  rcases List.mem_append.1 m with m | m
                                  · exact hfit.out e m
                                  · have : e = (s.extract (k + 1) nm, bs t) := by simpa using m
                                    subst this
                                    have h80 := textB_len hge.2
                                    rw [blen] at h80
                                    have h81 : (bs t).size ≤ 80 := h80
                                    exact ⟨by show (s.extract (k + 1) nm).size ≤ _; omega, by show (bs t).size ≤ _; omega⟩)
                                have HL : Hid ((out ++ [(s.extract (k + 1) nm, bs t)]).length ≤ 8) := Lib.hid (by simp; omega)
                                have hol : out.length ≤ 1073741824 := by omega
                                have q := str_same hx
                                clear hx z0 z3 z4
                                go_quiet (fail)
                                clear i1
                                have hownX := Lib.hid (OwnG.grown hown4.out (Below.drawn ((Below.refl w4.heap.size w4).alloc (Nat.le_refl _) (.cells #[.string (s.extract (k + 1) nm), .string (bs t)] 72)) nq))
                                have hbX := Lib.hid (Below.drawn (hbw4.out.alloc hsz4 (.cells #[.string (s.extract (k + 1) nm), .string (bs t)] 72)) nq)
                                have hgz := Lib.hid (show ((w4.alloc (.cells #[.string (s.extract (k + 1) nm), .string (bs t)] 72)).drewN nq).heap.size = w4.heap.size + 1 by show (w4.alloc _).heap.size = _; simp)
                                go_wp2_with (at_builtin; refine app_elem rfl (.tmp 104) (.tmp 106) rfl w _ out (s.extract (k + 1) nm) (bs t) rfl hownX.out hbX.out _ hgz.out rfl hol ?_; intro v1 w5 hown5 hb5)
                                go_roundw
                                case rel => exact ⟨la + 1, _, _, i5, by go_num, rfl, HL.out, Lib.hid HS.out.1, Lib.hid HS.out.2, HF, Lib.hid hown5, Lib.hid hb5⟩
                                case measure => simp [intOf]; omega
                              · have HR := Lib.hid (rdE_no (s := s.data.toList) (fun L' hv h2 => absurd (must.out L' hv h2).2.2.2.2 hx))
                                have q := str_other hx
                                clear hx z0 z3 z4
                                go_quiet (fail)
                                clear i1
                                go_wp2
                                go_ret2
                                exact ⟨_, [], false, rfl, HR.out, own_empty2 w4 w _ _ hsz4, Below.alloc (Below.drawn (hbw4.out.alloc hsz4 _) _) (size_dn _ _ _ hsz4) _⟩
                        · have b4 : ((s[k].toNat : Int) == 60) = false := byte_ne (d := 60) (by omega) h60
                          have p4 : ¬ ((s[k].toNat : Int) = 60) := by simpa using b4
                          have HR := Lib.hid (rdE_no (s := s.data.toList) (fun L' hv h2 => absurd (must.out L' hv h2).2.1 h60))
                          clear h60
                          go_wp2
                          go_ret2
                          exact ⟨_, [], false, rfl, HR.out, own_empty wr w hbr.out.size, hbr.out.alloc hbr.out.size _⟩
                      · have b3 : ((s[la].toNat : Int) == 62) = false := byte_ne (d := 62) (by omega) hf
                        have l3' := Lib.hid (scan_next hl hf l3.out)
                        clear hf
                        go_wp2
                        go_roundw
                        case rel => exact ⟨la + 1, by omega, by omega, by go_num, l3', by trivial⟩
                        case measure => simp [intOf]; omega
                    · have e0 : la = s.size := by omega
                      subst e0
                      have HR := Lib.hid (rdE_no (s := s.data.toList) (fun L' hv h2 => absurd (hmust.out nm en s.size (scan2 n1 hn n3.out hc.out e1 he e3.out hd.out l1 l2 l3.out (.inl rfl)) L' hv h2).1 (Nat.lt_irrefl _)))
                      go_wp2
                      go_ret2
                      exact ⟨_, [], false, rfl, HR.out, own_empty wr w hbr.out.size, hbr.out.alloc hbr.out.size _⟩
                · have b2 : ((s[en].toNat : Int) == 60) = false := byte_ne (d := 60) (by omega) hd
                  have e3' := Lib.hid (scan_next he hd e3.out)
                  clear hd
                  go_wp2
                  go_roundw
                  case rel => exact ⟨en + 1, by omega, by omega, by go_num, e3', by trivial⟩
                  case measure => simp [intOf]; omega
              · have e0 : en = s.size := by omega
                subst e0
                have HR := Lib.hid (rdE_no (s := s.data.toList) (fun L' hv h2 => absurd (hmust.out nm s.size s.size (scan1 n1 hn n3.out hc.out e3.out) L' hv h2).1 (Nat.lt_irrefl _)))
                go_wp2
                refine wp_loop_rounds 1 ?_
                rw [rounds_succ]; go_wp2
                go_ret2
                exact ⟨_, [], false, rfl, HR.out, own_empty wr w hbr.out.size, hbr.out.alloc hbr.out.size _⟩
          · have b1 : ((s[nm].toNat : Int) == 62) = false := byte_ne (d := 62) (by omega) hc
            have n3' := Lib.hid (scan_next hn hc n3.out)
            clear hc
            go_wp2
            go_roundw
            case rel => exact ⟨nm + 1, by omega, by omega, by go_num, n3', by trivial⟩
            case measure => simp [intOf]; omega
        · have e0 : nm = s.size := by omega
          subst e0
          have HR := Lib.hid (rdE_no (s := s.data.toList) (fun L' hv h2 => absurd (hmust.out s.size s.size s.size (scan0 hlt n3.out) L' hv h2).1 (Nat.lt_irrefl _)))
          go_wp2
          refine wp_loop_rounds 1 ?_
          rw [rounds_succ]; go_wp2
          refine wp_loop_rounds 1 ?_
          rw [rounds_succ]; go_wp2
          go_ret2
          exact ⟨_, [], false, rfl, HR.out, own_empty wr w hbr.out.size, hbr.out.alloc hbr.out.size _⟩
    · have hfull : elL out = s.data.toList := by rw [hout.out, bfull s k (by omega)]
      have hend := rdE_end hfull hg.out
      have hrd := OwnG.rd hown.out
      clear hfull
      rcases hB : elB out with _ | _
      · have HR := Lib.hid (hend.2 hB)
        have HB := Lib.hid hB
        clear hB hend
        go_wp2_with (go_at_call 90; refine (elS_valid _ out _ hrd hfit.out).mono ?_; rintro e w' ⟨rfl, rfl⟩; rw [HB.out])
        go_ret2
        exact ⟨_, [], false, rfl, HR.out, own_empty wr w hbr.out.size, hbr.out.alloc hbr.out.size _⟩
      · have HR := Lib.hid (hend.1 hB)
        have HB := Lib.hid hB
        clear hB hend
        go_wp2_with (go_at_call 90; refine (elS_valid _ out _ hrd hfit.out).mono ?_; rintro e w' ⟨rfl, rfl⟩; rw [HB.out])
        go_ret2
        exact ⟨_, out, true, rfl, HR.out, hown.out, hbr.out⟩
end Go.Proofs.Yteknjaocamlcpaa
