/- The law RefWrites: its walk. -/
import Derived.Test.YtnnhlkbjdfgcaaaUrU
import Derived.Test.YtnnhlkbjdfgcaaaUrS
import Derived.Test.YtnnhlkbjdfgcaaaRegion
namespace Go.Proofs.Ytnnhlkbjdfgcaaa
open Go.RowKit
theorem URText_any (r : Ur.R) (w : World) (h : r.Le 1000) (hw : (Ur.write r).length ≤ 1000) :
    Calls Try.prog 14 #[rV r] w fun e w' => e = .returned (txV (Ur.textR r)) ∧ Below w.heap.size w w' := by
  have HP := fun w1 (_ : Below w.heap.size w w1) => RParse_any ⟨(Ur.write r).toArray⟩ w1 (by rw [arr_size]; exact hw)
  rw [arr_list] at HP
  have z0 := h.sch
  have z1 := h.au
  have z2 := h.pa
  have z3 := h.qu
  have z4 := h.fr
  rw [← arr_size] at z0 z1 z2 z3 z4
  have hBA : (⟨(Ur.base r).toArray⟩ : ByteArray).data.toList = Ur.schT (⟨r.sch.toArray⟩ : ByteArray).data.toList ++ Ur.mk r.hA [47, 47] (⟨r.au.toArray⟩ : ByteArray).data.toList := by rw [arr_list, arr_list, arr_list]; rfl
  have hX : (⟨(Ur.write r).toArray⟩ : ByteArray).data.toList = (⟨(Ur.base r).toArray⟩ : ByteArray).data.toList ++ ((⟨r.pa.toArray⟩ : ByteArray).data.toList ++ (Ur.mk r.hQ [63] (⟨r.qu.toArray⟩ : ByteArray).data.toList ++ Ur.mk r.hF [35] (⟨r.fr.toArray⟩ : ByteArray).data.toList)) := by rw [arr_list, arr_list, arr_list, arr_list, arr_list]; rfl
  unfold Ur.textR
  rcases ho : Ur.parseL (Ur.write r) with _ | r1
  · rw [ho] at HP
    rw [if_neg (by intro e; cases e)]
    exact RText_none _ _ _ _ _ _ _ _ _ _ _ _ _ _ _ _ _ _ w z0 z1 z2 z3 z4 hBA hX HP
  · rw [ho] at HP
    by_cases e : r1 = r
    · subst e
      rw [if_pos rfl]
      exact RText_same _ _ _ _ _ _ _ _ _ _ w z0 z1 z2 z3 z4 hBA hX HP
    · rw [if_neg (by intro k; exact e (Option.some.inj k))]
      refine RText_other _ _ _ _ _ _ _ _ _ _ _ _ _ _ _ _ _ _ w z0 z1 z2 z3 z4 hBA hX HP ?_
      rintro ⟨h1, h2, h3, h4, h5, h6, h7, h8⟩
      exact e (Ur.R.ext' ⟨arr_inj h1, arr_inj h2, arr_inj h3, arr_inj h4, arr_inj h5, h6, h7, h8⟩)
set_option maxRecDepth 10000 in
set_option maxHeartbeats 1600000 in
/-- Where the parts have a text. -/
theorem writes11_yes (A0 B0 C0 D0 E0 A B C D E X : ByteArray) (x y z : Bool) (w : World)
    (HW : Hid (∀ w1, Below w.heap.size w w1 → Calls Try.prog 6 #[] w1 fun e w' => e = .returned (.bool true) ∧ Below w1.heap.size w1 w'))
    (FA : Hid (∀ w1, Calls Try.prog 7 #[.string A0] w1 fun e w' => e = .returned (.string A) ∧ w' = w1))
    (FB : Hid (∀ w1, Calls Try.prog 7 #[.string B0] w1 fun e w' => e = .returned (.string B) ∧ w' = w1))
    (FC : Hid (∀ w1, Calls Try.prog 7 #[.string C0] w1 fun e w' => e = .returned (.string C) ∧ w' = w1))
    (FD : Hid (∀ w1, Calls Try.prog 7 #[.string D0] w1 fun e w' => e = .returned (.string D) ∧ w' = w1))
    (FE : Hid (∀ w1, Calls Try.prog 7 #[.string E0] w1 fun e w' => e = .returned (.string E) ∧ w' = w1))
    (HT : Hid (∀ w1, Below w.heap.size w w1 → Calls Try.prog 10 #[.agg #[.string A, .string B, .string C, .string D, .string E, .bool x, .bool y, .bool z]] w1 fun e w' => e = .returned (.tuple #[.string X, .int .i64 0]) ∧ Below w1.heap.size w1 w'))
    (HU : Hid (∀ w1, Calls Try.prog 14 #[.agg #[.string A, .string B, .string C, .string D, .string E, .bool x, .bool y, .bool z]] w1 fun e w' => e = .returned (.tuple #[.string X, .int .i64 0]) ∧ Below w1.heap.size w1 w'))
    (HP : Hid (∀ w1, Below w.heap.size w w1 → Calls Try.prog 8 #[.string X] w1 fun e w' => e = .returned (.tuple #[.agg #[.string A, .string B, .string C, .string D, .string E, .bool x, .bool y, .bool z], .int .i64 0]) ∧ Below w1.heap.size w1 w')) :
    Calls Try.prog 4 #[.agg #[.string A0, .string B0, .string C0, .string D0, .string E0, .bool x, .bool y, .bool z]] w fun e w' => e = .returned (.bool true) ∧ Below w.heap.size w w' := by
  have hb0 : ∀ o, Below w.heap.size w (w.alloc o) := fun o => (Below.refl _ _).alloc (Nat.le_refl _) _
  have HB0 := Lib.hid hb0
  have HR0 := Lib.hid (refAt_new w A0 B0 C0 D0 E0 x y z)
  clear hb0
  go_enter Try.func4, Try.ntmps4
  go_wp2_with fail
  refine (HW.out _ (HB0.out _)).mono ?_
  rintro e w1 ⟨rfl, hb1⟩
  have HR1 := Lib.hid (HR0.out.stay hb1)
  have HB1 := Lib.hid (below_then (HB0.out _) hb1)
  clear hb1 HR0
  obtain ⟨c0, c1, c2, c3, c4, c5, c6, c7, f0, f1, f2, f3, f4, f5, f6, f7, l1⟩ := HR1.out
  go_wp2_with (first | (go_at_call_of 7 A0; refine (FA.out _).mono ?_; rintro e wx ⟨rfl, hwx⟩; rw [hwx]; clear hwx wx) | (go_at_call_of 7 B0; refine (FB.out _).mono ?_; rintro e wx ⟨rfl, hwx⟩; rw [hwx]; clear hwx wx) | (go_at_call_of 7 C0; refine (FC.out _).mono ?_; rintro e wx ⟨rfl, hwx⟩; rw [hwx]; clear hwx wx) | (go_at_call_of 7 D0; refine (FD.out _).mono ?_; rintro e wx ⟨rfl, hwx⟩; rw [hwx]; clear hwx wx) | (go_at_call_of 7 E0; refine (FE.out _).mono ?_; rintro e wx ⟨rfl, hwx⟩; rw [hwx]; clear hwx wx))
  generalize hW2 : ((((w1.setCell ⟨w.heap.size, 0, none⟩ (.string A)).setCell ⟨w.heap.size, 1, none⟩ (.string B)).setCell ⟨w.heap.size, 2, none⟩ (.string C)).setCell ⟨w.heap.size, 3, none⟩ (.string D)).setCell ⟨w.heap.size, 4, none⟩ (.string E) = W2
  have HR2 := Lib.hid (show RefAt W2 w.heap.size A B C D E x y z by
    rw [← hW2]
    constructor <;> simp [go_sem, c0, c1, c2, c3, c4, c5, c6, c7, f0, f1, f2, f3, f4, f5, f6, f7, l1])
  have HB2 := Lib.hid (show Below w.heap.size w W2 by
    rw [← hW2]
    have h := HB1.out
    exact (by repeat (first | with_reducible exact Below.refl _ _ | with_reducible assumption | with_reducible refine below_allocT ?_ _ | with_reducible refine Below.drew ?_ | with_reducible refine below_drewT ?_ _ | (with_reducible refine Below.setCell ?_ ?_ _; rotate_left; · first | exact Nat.le_refl _ | omega | (simp <;> omega)) | (with_reducible refine Below.alloc ?_ ?_ _; rotate_left; · first | omega | (simp <;> omega)))))
  clear hW2 HR1 HB1 c0 c1 c2 c3 c4 c5 c6 c7 f0 f1 f2 f3 f4 f5 f6 f7 l1 FA FB FC FD FE HW
  refine (HT.out _ HB2.out).mono ?_
  rintro e3 w3 ⟨rfl, hb3⟩
  have HR3 := Lib.hid (HR2.out.stay hb3)
  have HB3 := Lib.hid (below_then HB2.out hb3)
  clear hb3
  obtain ⟨c0, c1, c2, c3, c4, c5, c6, c7, -, -, -, -, -, -, -, -, l1⟩ := HR3.out
  go_wp2_with fail
  refine (HU.out _).mono ?_
  rintro e4 w4 ⟨rfl, hb4⟩
  have HR4 := Lib.hid (HR3.out.stay hb4)
  have HB4 := Lib.hid (below_then HB3.out hb4)
  clear hb4 c0 c1 c2 c3 c4 c5 c6 c7 l1
  go_wp2_with fail
  refine (HP.out _ HB4.out).mono ?_
  rintro e5 w5 ⟨rfl, hb5⟩
  have HR5 := Lib.hid (HR4.out.stay hb5)
  have HB5 := Lib.hid (below_then HB4.out hb5)
  clear hb5
  obtain ⟨c0, c1, c2, c3, c4, c5, c6, c7, f0, f1, f2, f3, f4, f5, f6, f7, l1⟩ := HR5.out
  go_wp2_with fail
  go_ret
  refine ⟨rfl, ?_⟩
  have h := HB5.out
  have hz := h.size
  exact (by repeat (first | with_reducible exact Below.refl _ _ | with_reducible assumption | with_reducible refine below_allocT ?_ _ | with_reducible refine Below.drew ?_ | with_reducible refine below_drewT ?_ _ | (with_reducible refine Below.setCell ?_ ?_ _; rotate_left; · first | exact Nat.le_refl _ | omega | (simp <;> omega)) | (with_reducible refine Below.alloc ?_ ?_ _; rotate_left; · first | omega | (simp <;> omega))))
set_option maxRecDepth 10000 in
set_option maxHeartbeats 1600000 in
/-- Where they have none. -/
theorem writes11_no (A0 B0 C0 D0 E0 A B C D E X : ByteArray) (x y z : Bool) (A1 B1 C1 D1 E1 : ByteArray) (x1 y1 z1 : Bool) (w : World)
    (HW : Hid (∀ w1, Below w.heap.size w w1 → Calls Try.prog 6 #[] w1 fun e w' => e = .returned (.bool true) ∧ Below w1.heap.size w1 w'))
    (FA : Hid (∀ w1, Calls Try.prog 7 #[.string A0] w1 fun e w' => e = .returned (.string A) ∧ w' = w1))
    (FB : Hid (∀ w1, Calls Try.prog 7 #[.string B0] w1 fun e w' => e = .returned (.string B) ∧ w' = w1))
    (FC : Hid (∀ w1, Calls Try.prog 7 #[.string C0] w1 fun e w' => e = .returned (.string C) ∧ w' = w1))
    (FD : Hid (∀ w1, Calls Try.prog 7 #[.string D0] w1 fun e w' => e = .returned (.string D) ∧ w' = w1))
    (FE : Hid (∀ w1, Calls Try.prog 7 #[.string E0] w1 fun e w' => e = .returned (.string E) ∧ w' = w1))
    (HT : Hid (∀ w1, Below w.heap.size w w1 → Calls Try.prog 10 #[.agg #[.string A, .string B, .string C, .string D, .string E, .bool x, .bool y, .bool z]] w1 fun e w' => e = .returned (.tuple #[.string X, .int .i64 2]) ∧ Below w1.heap.size w1 w'))
    (HU : Hid (∀ w1, Calls Try.prog 14 #[.agg #[.string A, .string B, .string C, .string D, .string E, .bool x, .bool y, .bool z]] w1 fun e w' => e = .returned (.tuple #[.string X, .int .i64 2]) ∧ Below w1.heap.size w1 w'))
    (HP : Hid (∀ w1, Below w.heap.size w w1 → Calls Try.prog 8 #[.string X] w1 fun e w' => e = .returned (.tuple #[.agg #[.string A1, .string B1, .string C1, .string D1, .string E1, .bool x1, .bool y1, .bool z1], .int .i64 0]) ∧ Below w1.heap.size w1 w')) :
    Calls Try.prog 4 #[.agg #[.string A0, .string B0, .string C0, .string D0, .string E0, .bool x, .bool y, .bool z]] w fun e w' => e = .returned (.bool true) ∧ Below w.heap.size w w' := by
  have hb0 : ∀ o, Below w.heap.size w (w.alloc o) := fun o => (Below.refl _ _).alloc (Nat.le_refl _) _
  have HB0 := Lib.hid hb0
  have HR0 := Lib.hid (refAt_new w A0 B0 C0 D0 E0 x y z)
  clear hb0
  go_enter Try.func4, Try.ntmps4
  go_wp2_with fail
  refine (HW.out _ (HB0.out _)).mono ?_
  rintro e w1 ⟨rfl, hb1⟩
  have HR1 := Lib.hid (HR0.out.stay hb1)
  have HB1 := Lib.hid (below_then (HB0.out _) hb1)
  clear hb1 HR0
  obtain ⟨c0, c1, c2, c3, c4, c5, c6, c7, f0, f1, f2, f3, f4, f5, f6, f7, l1⟩ := HR1.out
  go_wp2_with (first | (go_at_call_of 7 A0; refine (FA.out _).mono ?_; rintro e wx ⟨rfl, hwx⟩; rw [hwx]; clear hwx wx) | (go_at_call_of 7 B0; refine (FB.out _).mono ?_; rintro e wx ⟨rfl, hwx⟩; rw [hwx]; clear hwx wx) | (go_at_call_of 7 C0; refine (FC.out _).mono ?_; rintro e wx ⟨rfl, hwx⟩; rw [hwx]; clear hwx wx) | (go_at_call_of 7 D0; refine (FD.out _).mono ?_; rintro e wx ⟨rfl, hwx⟩; rw [hwx]; clear hwx wx) | (go_at_call_of 7 E0; refine (FE.out _).mono ?_; rintro e wx ⟨rfl, hwx⟩; rw [hwx]; clear hwx wx))
  generalize hW2 : ((((w1.setCell ⟨w.heap.size, 0, none⟩ (.string A)).setCell ⟨w.heap.size, 1, none⟩ (.string B)).setCell ⟨w.heap.size, 2, none⟩ (.string C)).setCell ⟨w.heap.size, 3, none⟩ (.string D)).setCell ⟨w.heap.size, 4, none⟩ (.string E) = W2
  have HR2 := Lib.hid (show RefAt W2 w.heap.size A B C D E x y z by
    rw [← hW2]
    constructor <;> simp [go_sem, c0, c1, c2, c3, c4, c5, c6, c7, f0, f1, f2, f3, f4, f5, f6, f7, l1])
  have HB2 := Lib.hid (show Below w.heap.size w W2 by
    rw [← hW2]
    have h := HB1.out
    exact (by repeat (first | with_reducible exact Below.refl _ _ | with_reducible assumption | with_reducible refine below_allocT ?_ _ | with_reducible refine Below.drew ?_ | with_reducible refine below_drewT ?_ _ | (with_reducible refine Below.setCell ?_ ?_ _; rotate_left; · first | exact Nat.le_refl _ | omega | (simp <;> omega)) | (with_reducible refine Below.alloc ?_ ?_ _; rotate_left; · first | omega | (simp <;> omega)))))
  clear hW2 HR1 HB1 c0 c1 c2 c3 c4 c5 c6 c7 f0 f1 f2 f3 f4 f5 f6 f7 l1 FA FB FC FD FE HW
  refine (HT.out _ HB2.out).mono ?_
  rintro e3 w3 ⟨rfl, hb3⟩
  have HR3 := Lib.hid (HR2.out.stay hb3)
  have HB3 := Lib.hid (below_then HB2.out hb3)
  clear hb3
  obtain ⟨c0, c1, c2, c3, c4, c5, c6, c7, -, -, -, -, -, -, -, -, l1⟩ := HR3.out
  go_wp2_with fail
  refine (HU.out _).mono ?_
  rintro e4 w4 ⟨rfl, hb4⟩
  have HR4 := Lib.hid (HR3.out.stay hb4)
  have HB4 := Lib.hid (below_then HB3.out hb4)
  clear hb4 c0 c1 c2 c3 c4 c5 c6 c7 l1
  go_wp2_with fail
  refine (HP.out _ HB4.out).mono ?_
  rintro e5 w5 ⟨rfl, hb5⟩
  have HR5 := Lib.hid (HR4.out.stay hb5)
  have HB5 := Lib.hid (below_then HB4.out hb5)
  clear hb5
  obtain ⟨c0, c1, c2, c3, c4, c5, c6, c7, f0, f1, f2, f3, f4, f5, f6, f7, l1⟩ := HR5.out
  go_wp2_with fail
  go_ret
  refine ⟨rfl, ?_⟩
  have h := HB5.out
  have hz := h.size
  exact (by repeat (first | with_reducible exact Below.refl _ _ | with_reducible assumption | with_reducible refine below_allocT ?_ _ | with_reducible refine Below.drew ?_ | with_reducible refine below_drewT ?_ _ | (with_reducible refine Below.setCell ?_ ?_ _; rotate_left; · first | exact Nat.le_refl _ | omega | (simp <;> omega)) | (with_reducible refine Below.alloc ?_ ?_ _; rotate_left; · first | omega | (simp <;> omega))))
theorem few11_list (s : ByteArray) : (few11 s).data.toList.length ≤ 150 := by
  have := few11_size s
  have e : (few11 s).data.toList.length = (few11 s).size := by simp
  omega
theorem writes11_core (A0 B0 C0 D0 E0 : ByteArray) (x y z : Bool) (w : World) (h0 : A0.size ≤ maxLen) (h1 : B0.size ≤ maxLen) (h2 : C0.size ≤ maxLen) (h3 : D0.size ≤ maxLen) (h4 : E0.size ≤ maxLen) (hm : MaxL w) :
    Calls Try.prog 4 #[rF A0 B0 C0 D0 E0 x y z] w fun e w' => e = .returned (.bool true) ∧ Below w.heap.size w w' := by
  have HW := Lib.hid (fun w1 (h : Below w.heap.size w w1) => awake11_any w1 (hm.stay h))
  have FA := Lib.hid (fun w1 => few11_any A0 w1 h0)
  have FB := Lib.hid (fun w1 => few11_any B0 w1 h1)
  have FC := Lib.hid (fun w1 => few11_any C0 w1 h2)
  have FD := Lib.hid (fun w1 => few11_any D0 w1 h3)
  have FE := Lib.hid (fun w1 => few11_any E0 w1 h4)
  have hle : (Ur.R.Le ⟨(few11 A0).data.toList, (few11 B0).data.toList, (few11 C0).data.toList, (few11 D0).data.toList, (few11 E0).data.toList, x, y, z⟩ 150) := ⟨few11_list A0, few11_list B0, few11_list C0, few11_list D0, few11_list E0⟩
  obtain ⟨r, hr⟩ : ∃ r : Ur.R, r = ⟨(few11 A0).data.toList, (few11 B0).data.toList, (few11 C0).data.toList, (few11 D0).data.toList, (few11 E0).data.toList, x, y, z⟩ := ⟨_, rfl⟩
  rw [← hr] at hle
  have hrv : rV r = .agg #[.string (few11 A0), .string (few11 B0), .string (few11 C0), .string (few11 D0), .string (few11 E0), .bool x, .bool y, .bool z] := by
    rw [hr]
    show Value.agg #[.string ⟨(few11 A0).data.toList.toArray⟩, .string ⟨(few11 B0).data.toList.toArray⟩, .string ⟨(few11 C0).data.toList.toArray⟩, .string ⟨(few11 D0).data.toList.toArray⟩, .string ⟨(few11 E0).data.toList.toArray⟩, .bool x, .bool y, .bool z] = _
    rw [mkB (S := few11 A0) rfl, mkB (S := few11 B0) rfl, mkB (S := few11 C0) rfl, mkB (S := few11 D0) rfl, mkB (S := few11 E0) rfl]
  have hw : (Ur.write r).length ≤ 1000 := by
    have e0 := hle.sch
    have e1 := hle.au
    have e2 := hle.pa
    have e3 := hle.qu
    have e4 := hle.fr
    unfold Ur.write Ur.base Ur.schT Ur.mk
    simp only [List.length_append]
    split <;> split <;> split <;> split <;> simp <;> omega
  have HT := fun w1 (h : Below w.heap.size w w1) => uText_any r w1 (hle.mono (by omega)) hw (hm.stay h)
  have HU := fun w1 => URText_any r w1 (hle.mono (by omega)) hw
  rw [hrv] at HT HU
  rcases ho : Ur.textR r with _ | l
  · rw [ho] at HT HU
    have HP := fun w1 (h : Below w.heap.size w w1) => UParse_any ⟨#[]⟩ w1 (by decide) (hm.stay h)
    have hp : Ur.parseL (⟨#[]⟩ : ByteArray).data.toList = some Ur.R.none := by decide +kernel
    rw [hp] at HP
    exact writes11_no A0 B0 C0 D0 E0 _ _ _ _ _ _ x y z _ _ _ _ _ _ _ _ w HW FA FB FC FD FE HT HU HP
  · rw [ho] at HT HU
    have hl := Ur.parse_text ho
    have hll : l = Ur.write r := by
      unfold Ur.textR at ho
      split at ho
      · exact (Option.some.inj ho).symm
      · cases ho
    have HP := fun w1 (h : Below w.heap.size w w1) => UParse_any ⟨l.toArray⟩ w1 (by rw [arr_size, hll]; exact hw) (hm.stay h)
    rw [arr_list, hl] at HP
    have hpv : pV (some r) = .tuple #[rV r, .int .i64 0] := rfl
    rw [hpv, hrv] at HP
    exact writes11_yes A0 B0 C0 D0 E0 _ _ _ _ _ _ x y z w HW FA FB FC FD FE HT HU HP
end Go.Proofs.Ytnnhlkbjdfgcaaa
