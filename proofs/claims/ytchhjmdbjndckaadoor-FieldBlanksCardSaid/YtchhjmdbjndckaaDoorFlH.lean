/- The law FieldWrites: its walk. -/
import Derived.Test.YtchhjmdbjndckaaDoorFlG
namespace Go.Proofs.YtchhjmdbjndckaaDoor
open Go.RowKit
set_option maxRecDepth 10000 in
set_option maxHeartbeats 1600000 in
/-- Where the field may be. -/
theorem writes12_ok (n0 v0 N V T : ByteArray) (w : World)
    (HW : Hid (∀ w1, Calls Tryd.prog 6 #[] w1 fun e w' => e = .returned (.bool true) ∧ Below w1.heap.size w1 w'))
    (FA : Hid (∀ w1, Calls Tryd.prog 7 #[.string n0] w1 fun e w' => e = .returned (.string N) ∧ w' = w1))
    (FB : Hid (∀ w1, Calls Tryd.prog 7 #[.string v0] w1 fun e w' => e = .returned (.string V) ∧ w' = w1))
    (HR : Hid (∀ w1, Calls Tryd.prog 11 #[.agg #[.string N, .string V]] w1 fun e w' => e = .returned (.int .i64 0) ∧ Below w1.heap.size w1 w'))
    (HC : Hid (∀ w1, Calls Tryd.prog 12 #[.agg #[.string N, .string V]] w1 fun e w' => e = .returned (.int .i64 0) ∧ Below w1.heap.size w1 w'))
    (HT : Hid (∀ w1, Calls Tryd.prog 10 #[.agg #[.string N, .string V]] w1 fun e w' => e = .returned (.tuple #[.string T, .int .i64 0]) ∧ Below w1.heap.size w1 w'))
    (HU : Hid (∀ w1, Calls Tryd.prog 13 #[.agg #[.string N, .string V]] w1 fun e w' => e = .returned (.string T) ∧ Below w1.heap.size w1 w'))
    (HX : Hid (∀ w1, Calls Tryd.prog 8 #[.string T] w1 fun e w' => e = .returned (.tuple #[.agg #[.string N, .string V], .int .i64 0]) ∧ Below w1.heap.size w1 w')) :
    Calls Tryd.prog 4 #[.agg #[.string n0, .string v0]] w fun e w' => e = .returned (.bool true) ∧ Below w.heap.size w w' := by
  have hb0 : ∀ o, Below w.heap.size w (w.alloc o) := fun o => (Below.refl _ _).alloc (Nat.le_refl _) _
  have HB0 := Lib.hid hb0
  have HF0 := Lib.hid (fldAt_new w n0 v0)
  clear hb0
  go_enter Tryd.func4, Tryd.ntmps4
  go_wp2_with fail
  refine (HW.out _).mono ?_
  rintro e w1 ⟨rfl, hb1⟩
  have HF1 := Lib.hid (HF0.out.stay hb1)
  have HB1 := Lib.hid (below_then (HB0.out _) hb1)
  clear hb1 HF0
  obtain ⟨c0, c1, f0, f1, l1⟩ := HF1.out
  go_wp2_with (first | (go_at_call_of 7 n0; refine (FA.out _).mono ?_; rintro e wx ⟨rfl, hwx⟩; rw [hwx]; clear hwx wx) | (go_at_call_of 7 v0; refine (FB.out _).mono ?_; rintro e wx ⟨rfl, hwx⟩; rw [hwx]; clear hwx wx))
  generalize hW2 : (w1.setCell ⟨w.heap.size, 0, none⟩ (.string N)).setCell ⟨w.heap.size, 1, none⟩ (.string V) = W2
  have HF2 := Lib.hid (show FldAt W2 w.heap.size N V by
    rw [← hW2]
    constructor <;> simp [go_sem, c0, c1, f0, f1, l1])
  have HB2 := Lib.hid (show Below w.heap.size w W2 by
    rw [← hW2]
    have h := HB1.out
    exact (by repeat (first | with_reducible exact Below.refl _ _ | with_reducible assumption | with_reducible refine below_allocT ?_ _ | with_reducible refine Below.drew ?_ | with_reducible refine below_drewT ?_ _ | (with_reducible refine Below.setCell ?_ ?_ _; rotate_left; · first | exact Nat.le_refl _ | omega | (simp <;> omega)) | (with_reducible refine Below.alloc ?_ ?_ _; rotate_left; · first | omega | (simp <;> omega)))))
  clear hW2 HF1 HB1 c0 c1 f0 f1 l1 FA FB HW
  refine (HR.out _).mono ?_
  rintro e w3 ⟨rfl, hb3⟩
  have HF3 := Lib.hid (HF2.out.stay hb3)
  have HB3 := Lib.hid (below_then HB2.out hb3)
  clear hb3
  obtain ⟨c0, c1, f0, f1, l1⟩ := HF3.out
  go_wp2_with fail
  refine (HT.out _).mono ?_
  rintro e w4 ⟨rfl, hb4⟩
  have HF4 := Lib.hid (HF3.out.stay hb4)
  have HB4 := Lib.hid (below_then HB3.out hb4)
  clear hb4 c0 c1 f0 f1 l1
  obtain ⟨c0, c1, f0, f1, l1⟩ := HF4.out
  go_wp2_with fail
  refine (HC.out _).mono ?_
  rintro e w5 ⟨rfl, hb5⟩
  have HF5 := Lib.hid (HF4.out.stay hb5)
  have HB5 := Lib.hid (below_then HB4.out hb5)
  clear hb5 c0 c1 f0 f1 l1
  go_wp2_with fail
  refine (HX.out _).mono ?_
  rintro e w6 ⟨rfl, hb6⟩
  have HF6 := Lib.hid (HF5.out.stay hb6)
  have HB6 := Lib.hid (below_then HB5.out hb6)
  clear hb6
  obtain ⟨c0, c1, -, -, l1⟩ := HF6.out
  go_wp2_with fail
  clear c0 c1 l1
  refine (HU.out _).mono ?_
  rintro e w7 ⟨rfl, hb7⟩
  have HB7 := Lib.hid (below_then (w := w) (by have h := HB6.out; have hz := h.size; exact (by repeat (first | with_reducible exact Below.refl _ _ | with_reducible assumption | with_reducible refine below_allocT ?_ _ | with_reducible refine Below.drew ?_ | with_reducible refine below_drewT ?_ _ | (with_reducible refine Below.setCell ?_ ?_ _; rotate_left; · first | exact Nat.le_refl _ | omega | (simp <;> omega)) | (with_reducible refine Below.alloc ?_ ?_ _; rotate_left; · first | omega | (simp <;> omega))))) hb7)
  obtain ⟨d0, d1, -, -, m1⟩ := HF6.out.later hb7
  obtain ⟨c0, c1, -, -, l1⟩ := (fldAt_new w6 N V).stay hb7
  clear hb7
  go_wp2_with fail
  go_ret
  exact ⟨rfl, HB7.out⟩
set_option maxRecDepth 10000 in
set_option maxHeartbeats 1600000 in
/-- Where it may not. -/
theorem writes12_bad (n0 v0 N V : ByteArray) (k : Int) (w : World)
    (HW : Hid (∀ w1, Calls Tryd.prog 6 #[] w1 fun e w' => e = .returned (.bool true) ∧ Below w1.heap.size w1 w'))
    (FA : Hid (∀ w1, Calls Tryd.prog 7 #[.string n0] w1 fun e w' => e = .returned (.string N) ∧ w' = w1))
    (FB : Hid (∀ w1, Calls Tryd.prog 7 #[.string v0] w1 fun e w' => e = .returned (.string V) ∧ w' = w1))
    (HR : Hid (∀ w1, Calls Tryd.prog 11 #[.agg #[.string N, .string V]] w1 fun e w' => e = .returned (.int .i64 k) ∧ Below w1.heap.size w1 w'))
    (HC : Hid (∀ w1, Calls Tryd.prog 12 #[.agg #[.string N, .string V]] w1 fun e w' => e = .returned (.int .i64 k) ∧ Below w1.heap.size w1 w'))
    (HT : Hid (∀ w1, Calls Tryd.prog 10 #[.agg #[.string N, .string V]] w1 fun e w' => e = .returned (.tuple #[.string ⟨#[]⟩, .int .i64 k]) ∧ Below w1.heap.size w1 w'))
    (hk : ¬ k = 0) :
    Calls Tryd.prog 4 #[.agg #[.string n0, .string v0]] w fun e w' => e = .returned (.bool true) ∧ Below w.heap.size w w' := by
  have hb0 : ∀ o, Below w.heap.size w (w.alloc o) := fun o => (Below.refl _ _).alloc (Nat.le_refl _) _
  have HB0 := Lib.hid hb0
  have HF0 := Lib.hid (fldAt_new w n0 v0)
  clear hb0
  go_enter Tryd.func4, Tryd.ntmps4
  go_wp2_with fail
  refine (HW.out _).mono ?_
  rintro e w1 ⟨rfl, hb1⟩
  have HF1 := Lib.hid (HF0.out.stay hb1)
  have HB1 := Lib.hid (below_then (HB0.out _) hb1)
  clear hb1 HF0
  obtain ⟨c0, c1, f0, f1, l1⟩ := HF1.out
  go_wp2_with (first | (go_at_call_of 7 n0; refine (FA.out _).mono ?_; rintro e wx ⟨rfl, hwx⟩; rw [hwx]; clear hwx wx) | (go_at_call_of 7 v0; refine (FB.out _).mono ?_; rintro e wx ⟨rfl, hwx⟩; rw [hwx]; clear hwx wx))
  generalize hW2 : (w1.setCell ⟨w.heap.size, 0, none⟩ (.string N)).setCell ⟨w.heap.size, 1, none⟩ (.string V) = W2
  have HF2 := Lib.hid (show FldAt W2 w.heap.size N V by
    rw [← hW2]
    constructor <;> simp [go_sem, c0, c1, f0, f1, l1])
  have HB2 := Lib.hid (show Below w.heap.size w W2 by
    rw [← hW2]
    have h := HB1.out
    exact (by repeat (first | with_reducible exact Below.refl _ _ | with_reducible assumption | with_reducible refine below_allocT ?_ _ | with_reducible refine Below.drew ?_ | with_reducible refine below_drewT ?_ _ | (with_reducible refine Below.setCell ?_ ?_ _; rotate_left; · first | exact Nat.le_refl _ | omega | (simp <;> omega)) | (with_reducible refine Below.alloc ?_ ?_ _; rotate_left; · first | omega | (simp <;> omega)))))
  clear hW2 HF1 HB1 c0 c1 f0 f1 l1 FA FB HW
  refine (HR.out _).mono ?_
  rintro e w3 ⟨rfl, hb3⟩
  have HF3 := Lib.hid (HF2.out.stay hb3)
  have HB3 := Lib.hid (below_then HB2.out hb3)
  clear hb3
  obtain ⟨c0, c1, f0, f1, l1⟩ := HF3.out
  go_wp2_with fail
  refine (HT.out _).mono ?_
  rintro e w4 ⟨rfl, hb4⟩
  have HF4 := Lib.hid (HF3.out.stay hb4)
  have HB4 := Lib.hid (below_then HB3.out hb4)
  clear hb4 c0 c1 f0 f1 l1
  obtain ⟨c0, c1, f0, f1, l1⟩ := HF4.out
  go_wp2_with fail
  refine (HC.out _).mono ?_
  rintro e w5 ⟨rfl, hb5⟩
  have HF5 := Lib.hid (HF4.out.stay hb5)
  have HB5 := Lib.hid (below_then HB4.out hb5)
  clear hb5 c0 c1 f0 f1 l1
  go_wp2_with fail
  all_goals first | exact absurd (by assumption) hk | skip
  go_ret
  exact ⟨rfl, HB5.out⟩
theorem fF_eq (n v : ByteArray) : fF n v = .agg #[.string n, .string v] := rfl
theorem arr_same (s : ByteArray) : (⟨s.data.toList.toArray⟩ : ByteArray) = s := bytes_eq (by simp)
theorem writes12_core (n0 v0 : ByteArray) (w : World) (hn : n0.size ≤ maxLen) (hv : v0.size ≤ maxLen) :
    Calls Tryd.prog 4 #[.agg #[.string n0, .string v0]] w fun e w' => e = .returned (.bool true) ∧ Below w.heap.size w w' := by
  have hnz := few12_size n0
  have hvz := few12_size v0
  have FA := Lib.hid (fun w1 => few12_any n0 w1 hn)
  have FB := Lib.hid (fun w1 => few12_any v0 w1 hv)
  generalize few12 n0 = N at *
  generalize few12 v0 = V at *
  have HR := Lib.hid (fun w1 => RFCheck_any N V w1 (by omega) (by omega))
  have HC := Lib.hid (fun w1 => FCheck_any N V w1 (by omega) (by omega))
  have HT := Lib.hid (fun w1 => FText_any N V w1 (by omega) (by omega))
  have HU := Lib.hid (fun w1 => RFText_any N V w1 (by omega) (by omega))
  rw [fF_eq] at HR HC HT HU
  by_cases hk : Fl.checkL N.data.toList V.data.toList = 0
  · have hb := Fl.line_back hk
    rw [txtF_ok hk] at HT
    rw [hk] at HR HC
    obtain ⟨T, g, hT, hTz⟩ := txtF_form N V
    rw [txtF_ok hk] at hT
    have hT2 : lineB N V = T := by cases hT; rfl
    have HX := Lib.hid (fun w1 => FParse_any (lineB N V) w1 (by rw [hT2]; omega))
    rw [show (lineB N V).data.toList = Fl.lineL N.data.toList V.data.toList from rfl, fV_of hb, arr_same, arr_same] at HX
    exact writes12_ok n0 v0 N V _ w (Lib.hid awake12_any) FA FB HR HC HT HU HX
  · rw [txtF_no hk] at HT
    exact writes12_bad n0 v0 N V _ w (Lib.hid awake12_any) FA FB HR HC HT hk
end Go.Proofs.YtchhjmdbjndckaaDoor
