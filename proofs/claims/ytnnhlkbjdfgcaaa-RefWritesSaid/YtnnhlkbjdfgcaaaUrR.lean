/- The document's Head: contract. -/
import Derived.Test.YtnnhlkbjdfgcaaaUrJ
namespace Go.Proofs.Ytnnhlkbjdfgcaaa
open Go.RowKit
theorem RHead_any (A B C D E : ByteArray) (x y z : Bool) (w : World) (h0 : A.size ≤ 1000) (h1 : B.size ≤ 1000) :
    Calls Try.prog 13 #[rF A B C D E x y z] w fun e w' => e = .returned (.string ⟨(Ur.schT A.data.toList ++ Ur.mk x [47, 47] B.data.toList).toArray⟩) ∧ Below w.heap.size w w' := by
  have hb0 : ∀ o, Below w.heap.size w (w.alloc o) := fun o => (Below.refl _ _).alloc (Nat.le_refl _) _
  have HB0 := Lib.hid hb0
  obtain ⟨a, ha⟩ : ∃ a, A.toList.isEmpty = a := ⟨_, rfl⟩
  have hv : ∀ S M : ByteArray, S.data.toList = Ur.schT A.data.toList → M.data.toList = Ur.mk x [47, 47] B.data.toList → (⟨(Ur.schT A.data.toList ++ Ur.mk x [47, 47] B.data.toList).toArray⟩ : ByteArray) = S ++ M := fun S M hS hM => mkB (by rw [list_append, hS, hM])
  clear hb0
  unfold rF
  go_enter Try.func13, Try.ntmps13
  cases a
  · have hS : (A ++ ⟨#[58]⟩ : ByteArray).data.toList = Ur.schT A.data.toList := by
      rw [list_append]
      unfold Ur.schT
      rw [if_neg (by intro e; rw [ByteArray.toList_eq, e] at ha; cases ha)]
    cases x
    · have HV := Lib.hid (hv (A ++ ⟨#[58]⟩) ⟨#[]⟩ hS rfl)
      clear hv hS
      go_wp2_with fail
      go_ret
      exact ⟨ret_str (by rw [HV.out]; exact bytes_eq (by simp)), HB0.out _⟩
    · have HV := Lib.hid (hv (A ++ ⟨#[58]⟩) (⟨#[47, 47]⟩ ++ B) hS (by rw [list_append]; rfl))
      clear hv hS
      go_wp2_with fail
      go_ret
      exact ⟨ret_str (by rw [HV.out]; exact bytes_eq (by simp)), HB0.out _⟩
  · have e : A.data.toList = [] := by rw [← ByteArray.toList_eq]; simpa using ha
    have hS : (⟨#[]⟩ : ByteArray).data.toList = Ur.schT A.data.toList := by
      unfold Ur.schT
      rw [if_pos e]
    cases x
    · have HV := Lib.hid (hv ⟨#[]⟩ ⟨#[]⟩ hS rfl)
      clear hv hS e
      go_wp2_with fail
      go_ret
      exact ⟨ret_str (by rw [HV.out]; rfl), HB0.out _⟩
    · have HV := Lib.hid (hv ⟨#[]⟩ (⟨#[47, 47]⟩ ++ B) hS (by rw [list_append]; rfl))
      clear hv hS e
      go_wp2_with fail
      go_ret
      exact ⟨ret_str (by rw [HV.out]; exact bytes_eq (by simp)), HB0.out _⟩
end Go.Proofs.Ytnnhlkbjdfgcaaa
