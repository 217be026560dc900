/-
  The verifier's own text: ItemMore.
-/
import Derived.Test.YtfbkloogbpckkaaItemMath
import Derived.WalkKit
import Derived.Lib.Hide
namespace Go.Proofs.Ytfbkloogbpckkaa
open Go.RowKit
set_option linter.unusedVariables false
def keyK : List UInt8 := [60, 107, 101, 121, 62, 107, 60, 47, 107, 101, 121, 62]
def othX : List UInt8 := [60, 111, 116, 104, 101, 114, 62, 120, 60, 47, 111, 116, 104, 101, 114, 62]
theorem keyK_el : elT1 (kKey, ⟨#[107]⟩) = keyK := by decide
theorem othX_el : elT1 (kOther, ⟨#[120]⟩) = othX := by decide
theorem rdE_itE {i : It} (h : itB i = true) : RdE (itT i) (itE i) true := .inl ⟨rfl, itE_valid h, (itT_elL h).symm⟩
theorem rdE_itO {i : It} (h : itB i = true) : RdE (othX ++ itT i) ((kOther, ⟨#[120]⟩) :: itE i) true :=
  .inl ⟨rfl, itO_valid h (by decide), by rw [elL_cons, othX_el, itT_elL h]⟩
/-- with a second key no item is read -/
theorem itR_more {s : List UInt8} {L L5 : EL} {ok5 : Bool} (h : RdE s L true) (hz : (itR L).2 = true) (h5 : RdE (s ++ keyK) L5 ok5) : itR L5 = (It.zero, false) := by
  rcases h with ⟨_, hv, he⟩ | ⟨h, _⟩
  · rcases h5 with ⟨_, hv5, he5⟩ | ⟨_, h5, _⟩
    · obtain ⟨L2, e1, e2⟩ := elL_pre L L5 keyK (elB_good hv) (elB_good hv5) (by rw [he5, he])
      have hk : goodE (kKey, ⟨#[107]⟩) := ⟨by decide, by decide⟩
      have hg2 : ∀ e ∈ L2, goodE e := fun e m => elB_good hv5 e (by rw [e1]; simp [m])
      obtain ⟨L3, e3, e4⟩ := elL_pre [(kKey, ⟨#[107]⟩)] L2 [] (fun e m => by have : e = (kKey, ⟨#[107]⟩) := by simpa using m
                                                                             rw [this]; exact hk) hg2 (by rw [e2, elL_cons, elL_nil, keyK_el]; simp)
      rw [elL_eq_nil e4, List.append_nil] at e3
      rw [e1, e3]; exact itR_twice _ hz
    · rw [h5]; exact itR_nil
  · cases h
end Go.Proofs.Ytfbkloogbpckkaa
