/- The law FieldReads: its walk. -/
import Derived.Test.YtchhjmdbjndckaaDoorFlE
import Derived.Test.YtchhjmdbjndckaaDoorFlF
namespace Go.Proofs.YtchhjmdbjndckaaDoor
open Go.RowKit
theorem FldAt.later {w w' : World} {o : Obj} {b : Nat} {n v : ByteArray} (h : FldAt w b n v) (hb : Below (w.alloc o).heap.size (w.alloc o) w') : FldAt w' b n v := by
  have hz : (w.alloc o).heap.size = w.heap.size + 1 := by simp
  have h1 : FldAt (w.alloc o) b n v := h.stay ((Below.refl _ _).alloc (Nat.le_refl _) _)
  exact h1.stay hb
set_option maxRecDepth 10000 in
set_option maxHeartbeats 1600000 in
/-- Where the line has a field. -/
theorem reads12_ok (s0 s N V T : ByteArray) (w : World)
    (HW : Hid (∀ w1, Calls Tryd.prog 6 #[] w1 fun e w' => e = .returned (.bool true) ∧ Below w1.heap.size w1 w'))
    (FA : Hid (∀ w1, Calls Tryd.prog 7 #[.string s0] w1 fun e w' => e = .returned (.string s) ∧ w' = w1))
    (HP : Hid (∀ w1, Calls Tryd.prog 8 #[.string s] w1 fun e w' => e = .returned (.tuple #[.agg #[.string N, .string V], .int .i64 0]) ∧ Below w1.heap.size w1 w'))
    (HR : Hid (∀ w1, Calls Tryd.prog 9 #[.string s] w1 fun e w' => e = .returned (.tuple #[.agg #[.string N, .string V], .int .i64 0]) ∧ Below w1.heap.size w1 w'))
    (HT : Hid (∀ w1, Calls Tryd.prog 10 #[.agg #[.string N, .string V]] w1 fun e w' => e = .returned (.tuple #[.string T, .int .i64 0]) ∧ Below w1.heap.size w1 w'))
    (HX : Hid (∀ w1, Calls Tryd.prog 8 #[.string T] w1 fun e w' => e = .returned (.tuple #[.agg #[.string N, .string V], .int .i64 0]) ∧ Below w1.heap.size w1 w'))
    (hz : (T.size : Int) ≤ (s.size : Int) + 1) (hs : s.size ≤ 300) :
    Calls Tryd.prog 3 #[.string s0] w fun e w' => e = .returned (.bool true) ∧ Below w.heap.size w w' := by
  go_enter Tryd.func3, Tryd.ntmps3
  go_wp2_with fail
  refine (HW.out _).mono ?_
  rintro e w1 ⟨rfl, hb1⟩
  have HB1 := Lib.hid hb1
  clear hb1
  go_wp2_with (go_at_call 7; refine (FA.out _).mono ?_; rintro e wx ⟨rfl, hwx⟩; rw [hwx]; clear hwx wx)
  refine (HP.out _).mono ?_
  rintro e w2 ⟨rfl, hb2⟩
  have HB2 := Lib.hid (below_then HB1.out hb2)
  clear hb2
  go_wp2_with fail
  refine (HR.out _).mono ?_
  rintro e w3 ⟨rfl, hb3⟩
  have HB3 := Lib.hid (below_then (w := w) (by have h := HB2.out; have hz := h.size; exact (by repeat (first | with_reducible exact Below.refl _ _ | with_reducible assumption | with_reducible refine below_allocT ?_ _ | with_reducible refine Below.drew ?_ | with_reducible refine below_drewT ?_ _ | (with_reducible refine Below.setCell ?_ ?_ _; rotate_left; · first | exact Nat.le_refl _ | omega | (simp <;> omega)) | (with_reducible refine Below.alloc ?_ ?_ _; rotate_left; · first | omega | (simp <;> omega))))) hb3)
  have HF3 := Lib.hid ((fldAt_new w2 N V).stay hb3)
  clear hb3
  obtain ⟨c0, c1, f0, f1, l0⟩ := HF3.out
  go_wp2_with fail
  refine (HT.out _).mono ?_
  rintro e w4 ⟨rfl, hb4⟩
  have HB4 := Lib.hid (below_then (w := w) (by have h := HB3.out; have hz := h.size; exact (by repeat (first | with_reducible exact Below.refl _ _ | with_reducible assumption | with_reducible refine below_allocT ?_ _ | with_reducible refine Below.drew ?_ | with_reducible refine below_drewT ?_ _ | (with_reducible refine Below.setCell ?_ ?_ _; rotate_left; · first | exact Nat.le_refl _ | omega | (simp <;> omega)) | (with_reducible refine Below.alloc ?_ ?_ _; rotate_left; · first | omega | (simp <;> omega))))) hb4)
  have HF4 := Lib.hid (HF3.out.later hb4)
  clear hb4 c0 c1 f0 f1 l0
  go_wp2_with fail
  refine (HX.out _).mono ?_
  rintro e w5 ⟨rfl, hb5⟩
  have HB5 := Lib.hid (below_then (w := w) (by have h := HB4.out; have hz := h.size; exact (by repeat (first | with_reducible exact Below.refl _ _ | with_reducible assumption | with_reducible refine below_allocT ?_ _ | with_reducible refine Below.drew ?_ | with_reducible refine below_drewT ?_ _ | (with_reducible refine Below.setCell ?_ ?_ _; rotate_left; · first | exact Nat.le_refl _ | omega | (simp <;> omega)) | (with_reducible refine Below.alloc ?_ ?_ _; rotate_left; · first | omega | (simp <;> omega))))) hb5)
  obtain ⟨c0, c1, f0, f1, l0⟩ := HF4.out.stay hb5
  clear hb5
  go_wp2_with fail
  go_ret
  refine ⟨rfl, ?_⟩
  have h := HB5.out
  have hz := h.size
  exact (by repeat (first | with_reducible exact Below.refl _ _ | with_reducible assumption | with_reducible refine below_allocT ?_ _ | with_reducible refine Below.drew ?_ | with_reducible refine below_drewT ?_ _ | (with_reducible refine Below.setCell ?_ ?_ _; rotate_left; · first | exact Nat.le_refl _ | omega | (simp <;> omega)) | (with_reducible refine Below.alloc ?_ ?_ _; rotate_left; · first | omega | (simp <;> omega))))
set_option maxRecDepth 10000 in
set_option maxHeartbeats 1600000 in
/-- Where it has none. -/
theorem reads12_err (s0 s N V T N1 V1 : ByteArray) (k g h0 : Int) (w : World)
    (HW : Hid (∀ w1, Calls Tryd.prog 6 #[] w1 fun e w' => e = .returned (.bool true) ∧ Below w1.heap.size w1 w'))
    (FA : Hid (∀ w1, Calls Tryd.prog 7 #[.string s0] w1 fun e w' => e = .returned (.string s) ∧ w' = w1))
    (HP : Hid (∀ w1, Calls Tryd.prog 8 #[.string s] w1 fun e w' => e = .returned (.tuple #[.agg #[.string N, .string V], .int .i64 k]) ∧ Below w1.heap.size w1 w'))
    (HR : Hid (∀ w1, Calls Tryd.prog 9 #[.string s] w1 fun e w' => e = .returned (.tuple #[.agg #[.string N, .string V], .int .i64 k]) ∧ Below w1.heap.size w1 w'))
    (HT : Hid (∀ w1, Calls Tryd.prog 10 #[.agg #[.string N, .string V]] w1 fun e w' => e = .returned (.tuple #[.string T, .int .i64 g]) ∧ Below w1.heap.size w1 w'))
    (HX : Hid (∀ w1, Calls Tryd.prog 8 #[.string T] w1 fun e w' => e = .returned (.tuple #[.agg #[.string N1, .string V1], .int .i64 h0]) ∧ Below w1.heap.size w1 w'))
    (hk : ¬ k = 0) (_hs : s.size ≤ 300) :
    Calls Tryd.prog 3 #[.string s0] w fun e w' => e = .returned (.bool true) ∧ Below w.heap.size w w' := by
  go_enter Tryd.func3, Tryd.ntmps3
  go_wp2_with fail
  refine (HW.out _).mono ?_
  rintro e w1 ⟨rfl, hb1⟩
  have HB1 := Lib.hid hb1
  clear hb1
  go_wp2_with (go_at_call 7; refine (FA.out _).mono ?_; rintro e wx ⟨rfl, hwx⟩; rw [hwx]; clear hwx wx)
  refine (HP.out _).mono ?_
  rintro e w2 ⟨rfl, hb2⟩
  have HB2 := Lib.hid (below_then HB1.out hb2)
  clear hb2
  go_wp2_with fail
  refine (HR.out _).mono ?_
  rintro e w3 ⟨rfl, hb3⟩
  have HB3 := Lib.hid (below_then (w := w) (by have h := HB2.out; have hz := h.size; exact (by repeat (first | with_reducible exact Below.refl _ _ | with_reducible assumption | with_reducible refine below_allocT ?_ _ | with_reducible refine Below.drew ?_ | with_reducible refine below_drewT ?_ _ | (with_reducible refine Below.setCell ?_ ?_ _; rotate_left; · first | exact Nat.le_refl _ | omega | (simp <;> omega)) | (with_reducible refine Below.alloc ?_ ?_ _; rotate_left; · first | omega | (simp <;> omega))))) hb3)
  have HF3 := Lib.hid ((fldAt_new w2 N V).stay hb3)
  clear hb3
  obtain ⟨c0, c1, f0, f1, l0⟩ := HF3.out
  go_wp2_with fail
  refine (HT.out _).mono ?_
  rintro e w4 ⟨rfl, hb4⟩
  have HB4 := Lib.hid (below_then (w := w) (by have h := HB3.out; have hz := h.size; exact (by repeat (first | with_reducible exact Below.refl _ _ | with_reducible assumption | with_reducible refine below_allocT ?_ _ | with_reducible refine Below.drew ?_ | with_reducible refine below_drewT ?_ _ | (with_reducible refine Below.setCell ?_ ?_ _; rotate_left; · first | exact Nat.le_refl _ | omega | (simp <;> omega)) | (with_reducible refine Below.alloc ?_ ?_ _; rotate_left; · first | omega | (simp <;> omega))))) hb4)
  have HF4 := Lib.hid (HF3.out.later hb4)
  clear hb4 c0 c1 f0 f1 l0
  go_wp2_with fail
  refine (HX.out _).mono ?_
  rintro e w5 ⟨rfl, hb5⟩
  have HB5 := Lib.hid (below_then (w := w) (by have h := HB4.out; have hz := h.size; exact (by repeat (first | with_reducible exact Below.refl _ _ | with_reducible assumption | with_reducible refine below_allocT ?_ _ | with_reducible refine Below.drew ?_ | with_reducible refine below_drewT ?_ _ | (with_reducible refine Below.setCell ?_ ?_ _; rotate_left; · first | exact Nat.le_refl _ | omega | (simp <;> omega)) | (with_reducible refine Below.alloc ?_ ?_ _; rotate_left; · first | omega | (simp <;> omega))))) hb5)
  obtain ⟨c0, c1, f0, f1, l0⟩ := HF4.out.stay hb5
  clear hb5
  go_wp2_with fail
  all_goals first | exact absurd (by assumption) hk | skip
  go_ret
  refine ⟨rfl, ?_⟩
  have h := HB5.out
  have hz := h.size
  exact (by repeat (first | with_reducible exact Below.refl _ _ | with_reducible assumption | with_reducible refine below_allocT ?_ _ | with_reducible refine Below.drew ?_ | with_reducible refine below_drewT ?_ _ | (with_reducible refine Below.setCell ?_ ?_ _; rotate_left; · first | exact Nat.le_refl _ | omega | (simp <;> omega)) | (with_reducible refine Below.alloc ?_ ?_ _; rotate_left; · first | omega | (simp <;> omega))))
theorem fV_of {x : List UInt8 × List UInt8 × Int} {n v : List UInt8} {k : Int} (h : x = (n, v, k)) : fV x = .tuple #[.agg #[.string ⟨n.toArray⟩, .string ⟨v.toArray⟩], .int .i64 k] := by rw [h]; rfl
theorem fV_eq (x : List UInt8 × List UInt8 × Int) : fV x = .tuple #[.agg #[.string ⟨x.1.toArray⟩, .string ⟨x.2.1.toArray⟩], .int .i64 x.2.2] := rfl
theorem txtF_form (n v : ByteArray) : ∃ (T : ByteArray) (g : Int), txtF n v = .tuple #[.string T, .int .i64 g] ∧ T.size ≤ n.size + v.size + 2 := by
  unfold txtF
  split
  · refine ⟨_, _, rfl, ?_⟩
    show (Fl.lineL n.data.toList v.data.toList).toArray.size ≤ _
    have h1 : n.data.toList.length = n.size := Array.length_toList
    have h2 : v.data.toList.length = v.size := Array.length_toList
    rw [List.size_toArray]
    unfold Fl.lineL
    rw [List.length_append, List.length_cons]
    split
    · simp; omega
    · rw [List.length_cons]; omega
  · exact ⟨_, _, rfl, Nat.zero_le _⟩
theorem arrSize (l : List UInt8) : (⟨l.toArray⟩ : ByteArray).size = l.length := by show l.toArray.size = _; simp
theorem reads12_core (s0 : ByteArray) (w : World) (hs : s0.size ≤ maxLen) :
    Calls Tryd.prog 3 #[.string s0] w fun e w' => e = .returned (.bool true) ∧ Below w.heap.size w w' := by
  have hz := few12_size s0
  have HF := Lib.hid (fun w1 => few12_any s0 w1 hs)
  generalize few12 s0 = s at *
  have hl : s.data.toList.length = s.size := Array.length_toList
  have hle := Fl.parse_le s.data.toList
  have HP := Lib.hid (fun w1 => FParse_any s w1 (by omega))
  have HR := Lib.hid (fun w1 => RFParse_any s w1 (by omega))
  rw [fV_eq] at HP HR
  have hn : (⟨(Fl.parseD s.data.toList).1.toArray⟩ : ByteArray).size ≤ 300 := by rw [arrSize]; omega
  have hv : (⟨(Fl.parseD s.data.toList).2.1.toArray⟩ : ByteArray).size ≤ 300 := by rw [arrSize]; omega
  have HT := Lib.hid (fun w1 => FText_any ⟨(Fl.parseD s.data.toList).1.toArray⟩ ⟨(Fl.parseD s.data.toList).2.1.toArray⟩ w1 (by omega) (by omega))
  by_cases hk : (Fl.parseD s.data.toList).2.2 = 0
  · obtain ⟨h1, h2⟩ := Fl.parse_ok hk
    have hb := Fl.line_back h1
    rw [hk] at HP HR
    rw [txtF_ok (by exact h1)] at HT
    have hT : (lineB ⟨(Fl.parseD s.data.toList).1.toArray⟩ ⟨(Fl.parseD s.data.toList).2.1.toArray⟩).size ≤ s.size + 1 := by
      rw [← hl]
      unfold lineB
      rw [arrSize]
      exact h2
    have HX := Lib.hid (fun w1 => FParse_any (lineB ⟨(Fl.parseD s.data.toList).1.toArray⟩ ⟨(Fl.parseD s.data.toList).2.1.toArray⟩) w1 (by omega))
    rw [show (lineB ⟨(Fl.parseD s.data.toList).1.toArray⟩ ⟨(Fl.parseD s.data.toList).2.1.toArray⟩).data.toList = Fl.lineL (Fl.parseD s.data.toList).1 (Fl.parseD s.data.toList).2.1 from rfl, fV_of hb] at HX
    exact reads12_ok s0 s _ _ _ w (Lib.hid awake12_any) HF HP HR HT HX (by omega) (by omega)
  · obtain ⟨T, g, hT, hTz⟩ := txtF_form ⟨(Fl.parseD s.data.toList).1.toArray⟩ ⟨(Fl.parseD s.data.toList).2.1.toArray⟩
    rw [hT] at HT
    have HX := Lib.hid (fun w1 => FParse_any T w1 (by omega))
    rw [fV_eq] at HX
    exact reads12_err s0 s _ _ T _ _ _ g _ w (Lib.hid awake12_any) HF HP HR HT HX hk (by omega)
end Go.Proofs.YtchhjmdbjndckaaDoor
