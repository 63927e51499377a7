/- Text, Base: contracts. -/
import Derived.Test.YtnnhlkbjdfgcaaaUrJ
namespace Go.Proofs.Ytnnhlkbjdfgcaaa
open Go.RowKit
theorem uwrite_r (r : Ur.R) (w : World) (h : r.Le 1000) :
    Calls Try.prog 23 #[rV r] w fun e w' => e = .returned (.string ⟨(Ur.write r).toArray⟩) ∧ Below w.heap.size w w' := by
  have h1 := uwrite_any ⟨r.sch.toArray⟩ ⟨r.au.toArray⟩ ⟨r.pa.toArray⟩ ⟨r.qu.toArray⟩ ⟨r.fr.toArray⟩ r.hA r.hQ r.hF w (by rw [arr_size]; exact h.sch) (by rw [arr_size]; exact h.au) (by rw [arr_size]; exact h.pa) (by rw [arr_size]; exact h.qu) (by rw [arr_size]; exact h.fr)
  rw [arr_list, arr_list, arr_list, arr_list, arr_list] at h1
  exact h1
theorem uBase_any (r : Ur.R) (w : World) (h : r.Le 1000) :
    Calls Try.prog 11 #[rV r] w fun e w' => e = .returned (.string ⟨(B.fold (Ur.base r)).toArray⟩) ∧ Below w.heap.size w w' := by
  have HB := Lib.hid (fun w1 => ubase_r r w1 h)
  have hbl : (Ur.base r).length ≤ 2003 := by
    have e1 := h.sch
    have e2 := h.au
    unfold Ur.base Ur.schT Ur.mk
    rw [List.length_append]
    split <;> split <;> simp <;> omega
  have HF := Lib.hid (fun w1 => Fold_any ⟨(Ur.base r).toArray⟩ w1 (by rw [arr_size]; omega))
  unfold B.foldS at HF
  rw [arr_list] at HF
  have HB0 := Lib.hid (fun o => (Below.refl w.heap.size w).alloc (Nat.le_refl _) o)
  generalize (⟨(Ur.base r).toArray⟩ : ByteArray) = X at *
  generalize B.fold (Ur.base r) = Y at *
  clear hbl h
  unfold rV at *
  go_enter Try.func11, Try.ntmps11
  go_wp2_with (first | (go_at_call 25; refine (HB.out _).mono ?_; rintro e w2 ⟨rfl, hb2⟩; have HB2 := Lib.hid ((HB0.out _).trans (hb2.mono (HB0.out _).size)); clear hb2) | (go_at_call 24; refine (HF.out _).mono ?_; rintro e w3 ⟨rfl, hb3⟩))
  go_ret
  exact ⟨rfl, HB2.out.trans (hb3.mono HB2.out.size)⟩
/-- Where what is read back is another one. -/
theorem uText_other (A B C D E : ByteArray) (x y z : Bool) (A1 B1 C1 D1 E1 : ByteArray) (x1 y1 z1 : Bool) (X : ByteArray) (w : World)
    (HW : ∀ w1, Below w.heap.size w w1 → Calls Try.prog 23 #[rF A B C D E x y z] w1 fun e w' => e = .returned (.string X) ∧ Below w1.heap.size w1 w')
    (HP : ∀ w1, Below w.heap.size w w1 → Calls Try.prog 8 #[.string X] w1 fun e w' => e = .returned (.tuple #[rF A1 B1 C1 D1 E1 x1 y1 z1, .int .i64 0]) ∧ Below w1.heap.size w1 w')
    (hne : ¬ (A1.toList = A.toList ∧ B1.toList = B.toList ∧ C1.toList = C.toList ∧ D1.toList = D.toList ∧ E1.toList = E.toList ∧ x1 = x ∧ y1 = y ∧ z1 = z)) :
    Calls Try.prog 10 #[rF A B C D E x y z] w fun e w' => e = .returned (.tuple #[.string ⟨#[]⟩, .int .i64 2]) ∧ Below w.heap.size w w' := by
  have HWH := Lib.hid HW
  have HPH := Lib.hid HP
  have HN := Lib.hid hne
  clear hne HW HP
  unfold rF at *
  go_enter Try.func10, Try.ntmps10
  go_wp2_with (first | (go_at_call 23; refine (HWH.out _ ?_).mono ?_; exact (by repeat (first | with_reducible exact Below.refl _ _ | with_reducible assumption | with_reducible refine below_allocT ?_ _ | with_reducible refine Below.drew ?_ | with_reducible refine below_drewT ?_ _ | (with_reducible refine Below.setCell ?_ ?_ _; rotate_left; · first | exact Nat.le_refl _ | omega | (simp <;> omega)) | (with_reducible refine Below.alloc ?_ ?_ _; rotate_left; · first | omega | (simp <;> omega)))); rintro e w1 ⟨rfl, hb1⟩; have HB1 := Lib.hid (below_then (w := w) (by repeat (first | with_reducible exact Below.refl _ _ | with_reducible assumption | with_reducible refine below_allocT ?_ _ | with_reducible refine Below.drew ?_ | with_reducible refine below_drewT ?_ _ | (with_reducible refine Below.setCell ?_ ?_ _; rotate_left; · first | exact Nat.le_refl _ | omega | (simp <;> omega)) | (with_reducible refine Below.alloc ?_ ?_ _; rotate_left; · first | omega | (simp <;> omega)))) hb1); have HR1 := Lib.hid ((refAt_new w A B C D E x y z).stay hb1); clear hb1) | (go_at_call 8; refine (HPH.out _ ?_).mono ?_; (have h := HB1.out; have hz := h.size; exact (by repeat (first | with_reducible exact Below.refl _ _ | with_reducible assumption | with_reducible refine below_allocT ?_ _ | with_reducible refine Below.drew ?_ | with_reducible refine below_drewT ?_ _ | (with_reducible refine Below.setCell ?_ ?_ _; rotate_left; · first | exact Nat.le_refl _ | omega | (simp <;> omega)) | (with_reducible refine Below.alloc ?_ ?_ _; rotate_left; · first | omega | (simp <;> omega))))); rintro e w2 ⟨rfl, hb2⟩; have HB2 := Lib.hid (below_then (w := w) (by have h := HB1.out; have hz := h.size; exact (by repeat (first | with_reducible exact Below.refl _ _ | with_reducible assumption | with_reducible refine below_allocT ?_ _ | with_reducible refine Below.drew ?_ | with_reducible refine below_drewT ?_ _ | (with_reducible refine Below.setCell ?_ ?_ _; rotate_left; · first | exact Nat.le_refl _ | omega | (simp <;> omega)) | (with_reducible refine Below.alloc ?_ ?_ _; rotate_left; · first | omega | (simp <;> omega))))) hb2); obtain ⟨c0, c1, c2, c3, c4, c5, c6, c7, f0, f1, f2, f3, f4, f5, f6, f7, l0⟩ := HR1.out.stay hb2; clear hb2))
  all_goals first
    | exact absurd ⟨by assumption, by assumption, by assumption, by assumption, by assumption, by assumption, by assumption, by assumption⟩ HN.out
    | skip
  all_goals
    go_ret2
    refine ⟨rfl, ?_⟩
    have h := HB2.out
    have hz := h.size
    exact (by repeat (first | with_reducible exact Below.refl _ _ | with_reducible assumption | with_reducible refine below_allocT ?_ _ | with_reducible refine Below.drew ?_ | with_reducible refine below_drewT ?_ _ | (with_reducible refine Below.setCell ?_ ?_ _; rotate_left; · first | exact Nat.le_refl _ | omega | (simp <;> omega)) | (with_reducible refine Below.alloc ?_ ?_ _; rotate_left; · first | omega | (simp <;> omega))))
/-- Where nothing is read back. -/
theorem uText_none (A B C D E : ByteArray) (x y z : Bool) (A1 B1 C1 D1 E1 : ByteArray) (x1 y1 z1 : Bool) (X : ByteArray) (w : World)
    (HW : ∀ w1, Below w.heap.size w w1 → Calls Try.prog 23 #[rF A B C D E x y z] w1 fun e w' => e = .returned (.string X) ∧ Below w1.heap.size w1 w')
    (HP : ∀ w1, Below w.heap.size w w1 → Calls Try.prog 8 #[.string X] w1 fun e w' => e = .returned (.tuple #[rF A1 B1 C1 D1 E1 x1 y1 z1, .int .i64 2]) ∧ Below w1.heap.size w1 w') :
    Calls Try.prog 10 #[rF A B C D E x y z] w fun e w' => e = .returned (.tuple #[.string ⟨#[]⟩, .int .i64 2]) ∧ Below w.heap.size w w' := by
  have HWH := Lib.hid HW
  have HPH := Lib.hid HP
  clear HW HP
  unfold rF at *
  go_enter Try.func10, Try.ntmps10
  go_wp2_with (first | (go_at_call 23; refine (HWH.out _ ?_).mono ?_; exact (by repeat (first | with_reducible exact Below.refl _ _ | with_reducible assumption | with_reducible refine below_allocT ?_ _ | with_reducible refine Below.drew ?_ | with_reducible refine below_drewT ?_ _ | (with_reducible refine Below.setCell ?_ ?_ _; rotate_left; · first | exact Nat.le_refl _ | omega | (simp <;> omega)) | (with_reducible refine Below.alloc ?_ ?_ _; rotate_left; · first | omega | (simp <;> omega)))); rintro e w1 ⟨rfl, hb1⟩; have HB1 := Lib.hid (below_then (w := w) (by repeat (first | with_reducible exact Below.refl _ _ | with_reducible assumption | with_reducible refine below_allocT ?_ _ | with_reducible refine Below.drew ?_ | with_reducible refine below_drewT ?_ _ | (with_reducible refine Below.setCell ?_ ?_ _; rotate_left; · first | exact Nat.le_refl _ | omega | (simp <;> omega)) | (with_reducible refine Below.alloc ?_ ?_ _; rotate_left; · first | omega | (simp <;> omega)))) hb1); have HR1 := Lib.hid ((refAt_new w A B C D E x y z).stay hb1); clear hb1) | (go_at_call 8; refine (HPH.out _ ?_).mono ?_; (have h := HB1.out; have hz := h.size; exact (by repeat (first | with_reducible exact Below.refl _ _ | with_reducible assumption | with_reducible refine below_allocT ?_ _ | with_reducible refine Below.drew ?_ | with_reducible refine below_drewT ?_ _ | (with_reducible refine Below.setCell ?_ ?_ _; rotate_left; · first | exact Nat.le_refl _ | omega | (simp <;> omega)) | (with_reducible refine Below.alloc ?_ ?_ _; rotate_left; · first | omega | (simp <;> omega))))); rintro e w2 ⟨rfl, hb2⟩; have HB2 := Lib.hid (below_then (w := w) (by have h := HB1.out; have hz := h.size; exact (by repeat (first | with_reducible exact Below.refl _ _ | with_reducible assumption | with_reducible refine below_allocT ?_ _ | with_reducible refine Below.drew ?_ | with_reducible refine below_drewT ?_ _ | (with_reducible refine Below.setCell ?_ ?_ _; rotate_left; · first | exact Nat.le_refl _ | omega | (simp <;> omega)) | (with_reducible refine Below.alloc ?_ ?_ _; rotate_left; · first | omega | (simp <;> omega))))) hb2); obtain ⟨c0, c1, c2, c3, c4, c5, c6, c7, f0, f1, f2, f3, f4, f5, f6, f7, l0⟩ := HR1.out.stay hb2; clear hb2))
  all_goals
    go_ret2
    refine ⟨rfl, ?_⟩
    have h := HB2.out
    have hz := h.size
    exact (by repeat (first | with_reducible exact Below.refl _ _ | with_reducible assumption | with_reducible refine below_allocT ?_ _ | with_reducible refine Below.drew ?_ | with_reducible refine below_drewT ?_ _ | (with_reducible refine Below.setCell ?_ ?_ _; rotate_left; · first | exact Nat.le_refl _ | omega | (simp <;> omega)) | (with_reducible refine Below.alloc ?_ ?_ _; rotate_left; · first | omega | (simp <;> omega))))
/-- Where the same is read back. -/
theorem uText_same (A B C D E : ByteArray) (x y z : Bool) (X : ByteArray) (w : World)
    (HW : ∀ w1, Below w.heap.size w w1 → Calls Try.prog 23 #[rF A B C D E x y z] w1 fun e w' => e = .returned (.string X) ∧ Below w1.heap.size w1 w')
    (HP : ∀ w1, Below w.heap.size w w1 → Calls Try.prog 8 #[.string X] w1 fun e w' => e = .returned (.tuple #[rF A B C D E x y z, .int .i64 0]) ∧ Below w1.heap.size w1 w') :
    Calls Try.prog 10 #[rF A B C D E x y z] w fun e w' => e = .returned (.tuple #[.string X, .int .i64 0]) ∧ Below w.heap.size w w' := by
  have HWH := Lib.hid HW
  have HPH := Lib.hid HP
  clear HW HP
  unfold rF at *
  go_enter Try.func10, Try.ntmps10
  go_wp2_with (first | (go_at_call 23; refine (HWH.out _ ?_).mono ?_; exact (by repeat (first | with_reducible exact Below.refl _ _ | with_reducible assumption | with_reducible refine below_allocT ?_ _ | with_reducible refine Below.drew ?_ | with_reducible refine below_drewT ?_ _ | (with_reducible refine Below.setCell ?_ ?_ _; rotate_left; · first | exact Nat.le_refl _ | omega | (simp <;> omega)) | (with_reducible refine Below.alloc ?_ ?_ _; rotate_left; · first | omega | (simp <;> omega)))); rintro e w1 ⟨rfl, hb1⟩; have HB1 := Lib.hid (below_then (w := w) (by repeat (first | with_reducible exact Below.refl _ _ | with_reducible assumption | with_reducible refine below_allocT ?_ _ | with_reducible refine Below.drew ?_ | with_reducible refine below_drewT ?_ _ | (with_reducible refine Below.setCell ?_ ?_ _; rotate_left; · first | exact Nat.le_refl _ | omega | (simp <;> omega)) | (with_reducible refine Below.alloc ?_ ?_ _; rotate_left; · first | omega | (simp <;> omega)))) hb1); have HR1 := Lib.hid ((refAt_new w A B C D E x y z).stay hb1); clear hb1) | (go_at_call 8; refine (HPH.out _ ?_).mono ?_; (have h := HB1.out; have hz := h.size; exact (by repeat (first | with_reducible exact Below.refl _ _ | with_reducible assumption | with_reducible refine below_allocT ?_ _ | with_reducible refine Below.drew ?_ | with_reducible refine below_drewT ?_ _ | (with_reducible refine Below.setCell ?_ ?_ _; rotate_left; · first | exact Nat.le_refl _ | omega | (simp <;> omega)) | (with_reducible refine Below.alloc ?_ ?_ _; rotate_left; · first | omega | (simp <;> omega))))); rintro e w2 ⟨rfl, hb2⟩; have HB2 := Lib.hid (below_then (w := w) (by have h := HB1.out; have hz := h.size; exact (by repeat (first | with_reducible exact Below.refl _ _ | with_reducible assumption | with_reducible refine below_allocT ?_ _ | with_reducible refine Below.drew ?_ | with_reducible refine below_drewT ?_ _ | (with_reducible refine Below.setCell ?_ ?_ _; rotate_left; · first | exact Nat.le_refl _ | omega | (simp <;> omega)) | (with_reducible refine Below.alloc ?_ ?_ _; rotate_left; · first | omega | (simp <;> omega))))) hb2); obtain ⟨c0, c1, c2, c3, c4, c5, c6, c7, f0, f1, f2, f3, f4, f5, f6, f7, l0⟩ := HR1.out.stay hb2; clear hb2))
  all_goals
    go_ret2
    refine ⟨rfl, ?_⟩
    have h := HB2.out
    have hz := h.size
    exact (by repeat (first | with_reducible exact Below.refl _ _ | with_reducible assumption | with_reducible refine below_allocT ?_ _ | with_reducible refine Below.drew ?_ | with_reducible refine below_drewT ?_ _ | (with_reducible refine Below.setCell ?_ ?_ _; rotate_left; · first | exact Nat.le_refl _ | omega | (simp <;> omega)) | (with_reducible refine Below.alloc ?_ ?_ _; rotate_left; · first | omega | (simp <;> omega))))
/-- What Text answers. -/
def txV (o : Option (List UInt8)) : Value := match o with
  | some l => .tuple #[.string ⟨l.toArray⟩, .int .i64 0]
  | none => .tuple #[.string ⟨#[]⟩, .int .i64 2]
theorem arr_inj {l m : List UInt8} (h : (⟨l.toArray⟩ : ByteArray).toList = (⟨m.toArray⟩ : ByteArray).toList) : l = m := by
  rw [ByteArray.toList_eq, ByteArray.toList_eq] at h
  simpa using h
theorem uText_any (r : Ur.R) (w : World) (h : r.Le 1000) (hw : (Ur.write r).length ≤ 1000) (hm : MaxL w) :
    Calls Try.prog 10 #[rV r] w fun e w' => e = .returned (txV (Ur.textR r)) ∧ Below w.heap.size w w' := by
  have HW : ∀ w1, Below w.heap.size w w1 → Calls Try.prog 23 #[rV r] w1 fun e w' => e = .returned (.string ⟨(Ur.write r).toArray⟩) ∧ Below w1.heap.size w1 w' := fun w1 _ => uwrite_r r w1 h
  have HP := fun w1 (k : Below w.heap.size w w1) => UParse_any ⟨(Ur.write r).toArray⟩ w1 (by rw [arr_size]; exact hw) (hm.stay k)
  rw [arr_list] at HP
  unfold Ur.textR
  rcases ho : Ur.parseL (Ur.write r) with _ | r1
  · rw [ho] at HP
    rw [if_neg (by intro e; cases e)]
    exact uText_none _ _ _ _ _ _ _ _ _ _ _ _ _ _ _ _ _ w HW HP
  · rw [ho] at HP
    by_cases e : r1 = r
    · subst e
      rw [if_pos rfl]
      exact uText_same _ _ _ _ _ _ _ _ _ w HW HP
    · rw [if_neg (by intro k; exact e (Option.some.inj k))]
      refine uText_other _ _ _ _ _ _ _ _ _ _ _ _ _ _ _ _ _ w HW HP ?_
      rintro ⟨h1, h2, h3, h4, h5, h6, h7, h8⟩
      exact e (Ur.R.ext' ⟨arr_inj h1, arr_inj h2, arr_inj h3, arr_inj h4, arr_inj h5, h6, h7, h8⟩)
end Go.Proofs.Ytnnhlkbjdfgcaaa
