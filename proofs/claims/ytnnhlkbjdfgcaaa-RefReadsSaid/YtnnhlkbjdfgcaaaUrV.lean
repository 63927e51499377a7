/- The law RefReads: its walk. -/
import Derived.Test.YtnnhlkbjdfgcaaaUrU
import Derived.Test.YtnnhlkbjdfgcaaaUrS
import Derived.Test.YtnnhlkbjdfgcaaaRegion
namespace Go.Proofs.Ytnnhlkbjdfgcaaa
open Go.RowKit
namespace Ur
theorem text_none : textR R.none = some [] := by decide +kernel
theorem base_none : base R.none = [] := rfl
end Ur
theorem refAt_of (w : World) (b : Nat) (A B C D E : ByteArray) (x y z : Bool) (hb : b = w.heap.size) : RefAt (w.alloc (.cells #[.string A, .string B, .string C, .string D, .string E, .bool x, .bool y, .bool z] 25)) b A B C D E x y z := by
  subst hb
  exact refAt_new w A B C D E x y z
set_option maxRecDepth 10000 in
set_option maxHeartbeats 1600000 in
/-- Where the text is a reference: whatever its parts. -/
theorem reads11_yes (s0 s A B C D E BF HD : ByteArray) (x y z : Bool) (w : World)
    (HW : Hid (Calls Try.prog 6 #[] w fun e w' => e = .returned (.bool true) ∧ Below w.heap.size w w'))
    (HF : Hid (∀ w1, Calls Try.prog 7 #[.string s0] w1 fun e w' => e = .returned (.string s) ∧ w' = w1))
    (HP : Hid (∀ w1, Below w.heap.size w w1 → Calls Try.prog 8 #[.string s] w1 fun e w' => e = .returned (.tuple #[.agg #[.string A, .string B, .string C, .string D, .string E, .bool x, .bool y, .bool z], .int .i64 0]) ∧ Below w1.heap.size w1 w'))
    (HR : Hid (∀ w1, Calls Try.prog 9 #[.string s] w1 fun e w' => e = .returned (.tuple #[.agg #[.string A, .string B, .string C, .string D, .string E, .bool x, .bool y, .bool z], .int .i64 0]) ∧ Below w1.heap.size w1 w'))
    (HT : Hid (∀ w1, Below w.heap.size w w1 → Calls Try.prog 10 #[.agg #[.string A, .string B, .string C, .string D, .string E, .bool x, .bool y, .bool z]] w1 fun e w' => e = .returned (.tuple #[.string s, .int .i64 0]) ∧ Below w1.heap.size w1 w'))
    (HB : Hid (∀ w1, Calls Try.prog 11 #[.agg #[.string A, .string B, .string C, .string D, .string E, .bool x, .bool y, .bool z]] w1 fun e w' => e = .returned (.string BF) ∧ Below w1.heap.size w1 w'))
    (HH : Hid (∀ w1, Calls Try.prog 13 #[.agg #[.string A, .string B, .string C, .string D, .string E, .bool x, .bool y, .bool z]] w1 fun e w' => e = .returned (.string HD) ∧ Below w1.heap.size w1 w'))
    (HO : Hid (∀ w1, Calls Try.prog 12 #[.string HD] w1 fun e w' => e = .returned (.string BF) ∧ ∃ n, w' = w1.drewN n)) :
    Calls Try.prog 3 #[.string s0] w fun e w' => e = .returned (.bool true) ∧ Below w.heap.size w w' := by
  go_enter Try.func3, Try.ntmps3
  go_wp2_with (first | (go_at_call 6; refine HW.out.mono ?_; rintro e w1 ⟨rfl, hb1⟩; have HB1 := Lib.hid hb1; clear hb1) | (go_at_call 7; refine (HF.out _).mono ?_; rintro e w2 ⟨rfl, hw2⟩; rw [hw2]; clear hw2) | (go_at_call 8; refine (HP.out _ ?_).mono ?_; (have h := HB1.out; exact (by repeat (first | with_reducible exact Below.refl _ _ | with_reducible assumption | with_reducible refine below_allocT ?_ _ | with_reducible refine Below.drew ?_ | with_reducible refine below_drewT ?_ _ | (with_reducible refine Below.setCell ?_ ?_ _; rotate_left; · first | exact Nat.le_refl _ | omega | (simp <;> omega)) | (with_reducible refine Below.alloc ?_ ?_ _; rotate_left; · first | omega | (simp <;> omega))))); rintro e w3 ⟨rfl, hb3⟩; have HB3 := Lib.hid (below_then (w := w) (by have h := HB1.out; exact (by repeat (first | with_reducible exact Below.refl _ _ | with_reducible assumption | with_reducible refine below_allocT ?_ _ | with_reducible refine Below.drew ?_ | with_reducible refine below_drewT ?_ _ | (with_reducible refine Below.setCell ?_ ?_ _; rotate_left; · first | exact Nat.le_refl _ | omega | (simp <;> omega)) | (with_reducible refine Below.alloc ?_ ?_ _; rotate_left; · first | omega | (simp <;> omega))))) hb3); clear hb3) | (go_at_call 9; refine (HR.out _).mono ?_; rintro e w4 ⟨rfl, hb4⟩; have HB4 := Lib.hid (below_then (w := w) (by have h := HB3.out; have hz := h.size; exact (by repeat (first | with_reducible exact Below.refl _ _ | with_reducible assumption | with_reducible refine below_allocT ?_ _ | with_reducible refine Below.drew ?_ | with_reducible refine below_drewT ?_ _ | (with_reducible refine Below.setCell ?_ ?_ _; rotate_left; · first | exact Nat.le_refl _ | omega | (simp <;> omega)) | (with_reducible refine Below.alloc ?_ ?_ _; rotate_left; · first | omega | (simp <;> omega))))) hb4); have HR4 := Lib.hid (RefAt.stay (refAt_of w3 w3.heap.size A B C D E x y z rfl) hb4); clear hb4; obtain ⟨c0, c1, c2, c3, c4, c5, c6, c7, f0, f1, f2, f3, f4, f5, f6, f7, l0⟩ := HR4.out) | (go_at_call 10; refine (HT.out _ ?_).mono ?_; (have h := HB4.out; have hz := h.size; exact (by repeat (first | with_reducible exact Below.refl _ _ | with_reducible assumption | with_reducible refine below_allocT ?_ _ | with_reducible refine Below.drew ?_ | with_reducible refine below_drewT ?_ _ | (with_reducible refine Below.setCell ?_ ?_ _; rotate_left; · first | exact Nat.le_refl _ | omega | (simp <;> omega)) | (with_reducible refine Below.alloc ?_ ?_ _; rotate_left; · first | omega | (simp <;> omega))))); rintro e w5 ⟨rfl, hb5⟩; clear c0 c1 c2 c3 c4 c5 c6 c7 f0 f1 f2 f3 f4 f5 f6 f7 l0; have HB5 := Lib.hid (below_then (w := w) (by have h := HB4.out; have hz := h.size; exact (by repeat (first | with_reducible exact Below.refl _ _ | with_reducible assumption | with_reducible refine below_allocT ?_ _ | with_reducible refine Below.drew ?_ | with_reducible refine below_drewT ?_ _ | (with_reducible refine Below.setCell ?_ ?_ _; rotate_left; · first | exact Nat.le_refl _ | omega | (simp <;> omega)) | (with_reducible refine Below.alloc ?_ ?_ _; rotate_left; · first | omega | (simp <;> omega))))) hb5); have HR5 := Lib.hid ((HR4.out.stay ((Below.refl _ _).alloc (Nat.le_refl _) _)).stay hb5); clear hb5))
  obtain ⟨c0, c1, c2, c3, c4, c5, c6, c7, -, -, -, -, -, -, -, -, l0⟩ := HR5.out
  refine wp_region_specs (by kernel_rfl) [.is (.int .i64 0), .is (.bool false), .is (.bool false), .is (.int .i64 0), .is (.bool true), .is (.bool true), .is (.string s), .is (.string s), .is (.bool true), .is (.bool true), .is (.bool true), .is (.agg #[.string A, .string B, .string C, .string D, .string E, .bool x, .bool y, .bool z]), .is (.string BF), .is (.agg #[.string A, .string B, .string C, .string D, .string E, .bool x, .bool y, .bool z]), .is (.string HD), .is (.string BF), .is (.bool true), .is (.bool true), .is (.bool true), .is (.bool true)] (by kernel_rfl) ?_ ?_
  · refine ⟨?_, ?_, ?_, ?_, ?_, ?_, ?_, ?_, ?_, ?_, ?_, ?_, ?_, ?_, ?_, ?_, ?_, ?_, ?_, ?_, trivial⟩
    · intro a wq hs hb hold hdep K hK
      have f4 : a.tmps.getD 4 undef = Value.int IntKind.i64 0 := hold 4 (by kernel_rfl)
      refine Or.inl ⟨rfl, ?_⟩
      clear hold hdep hs
      go_simp
      exact hK _ _ rfl (Below.refl _ _)
    · intro a wq hs hb hold hdep K hK
      have f36 : a.tmps.getD 36 undef = .int .i64 0 := hdep 0 36 (by kernel_rfl) (by kernel_rfl)
      refine Or.inl ⟨rfl, ?_⟩
      clear hold hdep hs
      go_simp
      exact hK _ _ rfl (Below.refl _ _)
    · intro a wq hs hb hold hdep K hK
      have f37 : a.tmps.getD 37 undef = .bool false := hdep 1 37 (by kernel_rfl) (by kernel_rfl)
      refine Or.inl ⟨rfl, ?_⟩
      clear hold hdep hs
      go_simp
      exact hK _ _ rfl (Below.refl _ _)
    · intro a wq hs hb hold hdep K hK
      have f8 : a.tmps.getD 8 undef = Value.int IntKind.i64 0 := hold 8 (by kernel_rfl)
      refine Or.inl ⟨want_of (d := 38) rfl (by kernel_rfl) (hdep 2 38 (by kernel_rfl) (by kernel_rfl)), ?_⟩
      clear hold hdep hs
      go_simp
      exact hK _ _ rfl (Below.refl _ _)
    · intro a wq hs hb hold hdep K hK
      have f39 : a.tmps.getD 39 undef = .int .i64 0 := hdep 3 39 (by kernel_rfl) (by kernel_rfl)
      refine Or.inl ⟨want_of (d := 38) rfl (by kernel_rfl) (hdep 2 38 (by kernel_rfl) (by kernel_rfl)), ?_⟩
      clear hold hdep hs
      go_simp
      exact hK _ _ rfl (Below.refl _ _)
    · intro a wq hs hb hold hdep K hK
      have f40 : a.tmps.getD 40 undef = .bool true := hdep 4 40 (by kernel_rfl) (by kernel_rfl)
      refine Or.inl ⟨want_of (d := 38) rfl (by kernel_rfl) (hdep 2 38 (by kernel_rfl) (by kernel_rfl)), ?_⟩
      clear hold hdep hs
      go_simp
      exact hK _ _ rfl (Below.refl _ _)
    · intro a wq hs hb hold hdep K hK
      have f7 : a.tmps.getD 7 undef = Value.string s := hold 7 (by kernel_rfl)
      refine Or.inl ⟨want_of (d := 41) rfl (by kernel_rfl) (hdep 5 41 (by kernel_rfl) (by kernel_rfl)), ?_⟩
      clear hold hdep hs
      go_simp
      exact hK _ _ rfl (Below.refl _ _)
    · intro a wq hs hb hold hdep K hK
      have f0 : a.tmps.getD 0 undef = Value.string s := hold 0 (by kernel_rfl)
      refine Or.inl ⟨want_of (d := 41) rfl (by kernel_rfl) (hdep 5 41 (by kernel_rfl) (by kernel_rfl)), ?_⟩
      clear hold hdep hs
      go_simp
      exact hK _ _ rfl (Below.refl _ _)
    · intro a wq hs hb hold hdep K hK
      have f42 : a.tmps.getD 42 undef = .string s := hdep 6 42 (by kernel_rfl) (by kernel_rfl)
      have f43 : a.tmps.getD 43 undef = .string s := hdep 7 43 (by kernel_rfl) (by kernel_rfl)
      refine Or.inl ⟨want_of (d := 41) rfl (by kernel_rfl) (hdep 5 41 (by kernel_rfl) (by kernel_rfl)), ?_⟩
      clear hold hdep hs
      go_simp
      exact hK _ _ rfl (Below.refl _ _)
    · intro a wq hs hb hold hdep K hK
      have f41 : a.tmps.getD 41 undef = .bool true := hdep 5 41 (by kernel_rfl) (by kernel_rfl)
      have f44 : a.tmps.getD 44 undef = .bool true := hdep 8 44 (by kernel_rfl) (by kernel_rfl)
      refine Or.inl ⟨want_of (d := 38) rfl (by kernel_rfl) (hdep 2 38 (by kernel_rfl) (by kernel_rfl)), ?_⟩
      clear hold hdep hs
      go_simp
      exact hK _ _ rfl (Below.refl _ _)
    · intro a wq hs hb hold hdep K hK
      have f45 : a.tmps.getD 45 undef = .bool true := hdep 9 45 (by kernel_rfl) (by kernel_rfl)
      refine Or.inl ⟨want_of (d := 38) rfl (by kernel_rfl) (hdep 2 38 (by kernel_rfl) (by kernel_rfl)), ?_⟩
      clear hold hdep hs
      go_simp
      exact hK _ _ rfl (Below.refl _ _)
    · intro a wq hs hb hold hdep K hK
      have f3 : a.tmps.getD 3 undef = Value.pointer (some { block := w3.heap.size, off := 0 }) := hold 3 (by kernel_rfl)
      refine Or.inl ⟨want_of (d := 46) rfl (by kernel_rfl) (hdep 10 46 (by kernel_rfl) (by kernel_rfl)), ?_⟩
      clear hold hdep hs
      have e0 := below_cell hb l0 c0
      have e1 := below_cell hb l0 c1
      have e2 := below_cell hb l0 c2
      have e3 := below_cell hb l0 c3
      have e4 := below_cell hb l0 c4
      have e5 := below_cell hb l0 c5
      have e6 := below_cell hb l0 c6
      have e7 := below_cell hb l0 c7
      go_simp
      exact hK _ _ rfl (Below.refl _ _)
    · intro a wq hs hb hold hdep K hK
      have f47 : a.tmps.getD 47 undef = .agg #[.string A, .string B, .string C, .string D, .string E, .bool x, .bool y, .bool z] := hdep 11 47 (by kernel_rfl) (by kernel_rfl)
      refine Or.inl ⟨want_of (d := 46) rfl (by kernel_rfl) (hdep 10 46 (by kernel_rfl) (by kernel_rfl)), ?_⟩
      clear hold hdep hs
      go_simp
      refine (HB.out _).mono ?_
      rintro e w9 ⟨rfl, hb9⟩
      exact hK _ _ rfl hb9
    · intro a wq hs hb hold hdep K hK
      have f3 : a.tmps.getD 3 undef = Value.pointer (some { block := w3.heap.size, off := 0 }) := hold 3 (by kernel_rfl)
      refine Or.inl ⟨want_of (d := 46) rfl (by kernel_rfl) (hdep 10 46 (by kernel_rfl) (by kernel_rfl)), ?_⟩
      clear hold hdep hs
      have e0 := below_cell hb l0 c0
      have e1 := below_cell hb l0 c1
      have e2 := below_cell hb l0 c2
      have e3 := below_cell hb l0 c3
      have e4 := below_cell hb l0 c4
      have e5 := below_cell hb l0 c5
      have e6 := below_cell hb l0 c6
      have e7 := below_cell hb l0 c7
      go_simp
      exact hK _ _ rfl (Below.refl _ _)
    · intro a wq hs hb hold hdep K hK
      have f49 : a.tmps.getD 49 undef = .agg #[.string A, .string B, .string C, .string D, .string E, .bool x, .bool y, .bool z] := hdep 13 49 (by kernel_rfl) (by kernel_rfl)
      refine Or.inl ⟨want_of (d := 46) rfl (by kernel_rfl) (hdep 10 46 (by kernel_rfl) (by kernel_rfl)), ?_⟩
      clear hold hdep hs
      go_simp
      refine (HH.out _).mono ?_
      rintro e w9 ⟨rfl, hb9⟩
      exact hK _ _ rfl hb9
    · intro a wq hs hb hold hdep K hK
      have f50 : a.tmps.getD 50 undef = .string HD := hdep 14 50 (by kernel_rfl) (by kernel_rfl)
      refine Or.inl ⟨want_of (d := 46) rfl (by kernel_rfl) (hdep 10 46 (by kernel_rfl) (by kernel_rfl)), ?_⟩
      clear hold hdep hs
      go_simp
      refine (HO.out _).mono ?_
      rintro e w9 ⟨rfl, n9, rfl⟩
      exact hK _ _ rfl (below_drewN _ _ _)
    · intro a wq hs hb hold hdep K hK
      have f48 : a.tmps.getD 48 undef = .string BF := hdep 12 48 (by kernel_rfl) (by kernel_rfl)
      have f51 : a.tmps.getD 51 undef = .string BF := hdep 15 51 (by kernel_rfl) (by kernel_rfl)
      refine Or.inl ⟨want_of (d := 46) rfl (by kernel_rfl) (hdep 10 46 (by kernel_rfl) (by kernel_rfl)), ?_⟩
      clear hold hdep hs
      go_simp
      exact hK _ _ rfl (Below.refl _ _)
    · intro a wq hs hb hold hdep K hK
      have f46 : a.tmps.getD 46 undef = .bool true := hdep 10 46 (by kernel_rfl) (by kernel_rfl)
      have f52 : a.tmps.getD 52 undef = .bool true := hdep 16 52 (by kernel_rfl) (by kernel_rfl)
      refine Or.inl ⟨want_of (d := 38) rfl (by kernel_rfl) (hdep 2 38 (by kernel_rfl) (by kernel_rfl)), ?_⟩
      clear hold hdep hs
      go_simp
      exact hK _ _ rfl (Below.refl _ _)
    · intro a wq hs hb hold hdep K hK
      have f38 : a.tmps.getD 38 undef = .bool false := hdep 2 38 (by kernel_rfl) (by kernel_rfl)
      have f53 : a.tmps.getD 53 undef = .bool true := hdep 17 53 (by kernel_rfl) (by kernel_rfl)
      refine Or.inl ⟨rfl, ?_⟩
      clear hold hdep hs
      go_simp
      exact hK _ _ rfl (Below.refl _ _)
    · intro a wq hs hb hold hdep K hK
      have f54 : a.tmps.getD 54 undef = .bool true := hdep 18 54 (by kernel_rfl) (by kernel_rfl)
      refine Or.inl ⟨rfl, ?_⟩
      clear hold hdep hs
      go_simp
      exact hK _ _ rfl (Below.refl _ _)
  · intro a wq hs hd hb hold hall
    have f2 : a.tmps.getD 2 undef = .bool true := hall 19 2 (by kernel_rfl)
    have hbz : Below w.heap.size w wq := HB5.out.trans (hb.mono HB5.out.size)
    clear hold hall hs hb
    go_wp2_with fail
    refine bodyPost_ret (v := .bool true) ?_ ?_ ?_
    · rw [← f2]; exact results_tmp rfl _ _ _
    · exact hd
    · exact ⟨rfl, hbz⟩
set_option maxRecDepth 10000 in
set_option maxHeartbeats 1600000 in
/-- Where it is none. -/
theorem reads11_no (s0 s A B C D E t0 : ByteArray) (x y z : Bool) (w : World)
    (HW : Hid (Calls Try.prog 6 #[] w fun e w' => e = .returned (.bool true) ∧ Below w.heap.size w w'))
    (HF : Hid (∀ w1, Calls Try.prog 7 #[.string s0] w1 fun e w' => e = .returned (.string s) ∧ w' = w1))
    (HP : Hid (∀ w1, Below w.heap.size w w1 → Calls Try.prog 8 #[.string s] w1 fun e w' => e = .returned (.tuple #[.agg #[.string A, .string B, .string C, .string D, .string E, .bool x, .bool y, .bool z], .int .i64 2]) ∧ Below w1.heap.size w1 w'))
    (HR : Hid (∀ w1, Calls Try.prog 9 #[.string s] w1 fun e w' => e = .returned (.tuple #[.agg #[.string A, .string B, .string C, .string D, .string E, .bool x, .bool y, .bool z], .int .i64 2]) ∧ Below w1.heap.size w1 w'))
    (HT : Hid (∀ w1, Below w.heap.size w w1 → Calls Try.prog 10 #[.agg #[.string A, .string B, .string C, .string D, .string E, .bool x, .bool y, .bool z]] w1 fun e w' => e = .returned (.tuple #[.string t0, .int .i64 0]) ∧ Below w1.heap.size w1 w')) :
    Calls Try.prog 3 #[.string s0] w fun e w' => e = .returned (.bool true) ∧ Below w.heap.size w w' := by
  go_enter Try.func3, Try.ntmps3
  go_wp2_with (first | (go_at_call 6; refine HW.out.mono ?_; rintro e w1 ⟨rfl, hb1⟩; have HB1 := Lib.hid hb1; clear hb1) | (go_at_call 7; refine (HF.out _).mono ?_; rintro e w2 ⟨rfl, hw2⟩; rw [hw2]; clear hw2) | (go_at_call 8; refine (HP.out _ ?_).mono ?_; (have h := HB1.out; exact (by repeat (first | with_reducible exact Below.refl _ _ | with_reducible assumption | with_reducible refine below_allocT ?_ _ | with_reducible refine Below.drew ?_ | with_reducible refine below_drewT ?_ _ | (with_reducible refine Below.setCell ?_ ?_ _; rotate_left; · first | exact Nat.le_refl _ | omega | (simp <;> omega)) | (with_reducible refine Below.alloc ?_ ?_ _; rotate_left; · first | omega | (simp <;> omega))))); rintro e w3 ⟨rfl, hb3⟩; have HB3 := Lib.hid (below_then (w := w) (by have h := HB1.out; exact (by repeat (first | with_reducible exact Below.refl _ _ | with_reducible assumption | with_reducible refine below_allocT ?_ _ | with_reducible refine Below.drew ?_ | with_reducible refine below_drewT ?_ _ | (with_reducible refine Below.setCell ?_ ?_ _; rotate_left; · first | exact Nat.le_refl _ | omega | (simp <;> omega)) | (with_reducible refine Below.alloc ?_ ?_ _; rotate_left; · first | omega | (simp <;> omega))))) hb3); clear hb3) | (go_at_call 9; refine (HR.out _).mono ?_; rintro e w4 ⟨rfl, hb4⟩; have HB4 := Lib.hid (below_then (w := w) (by have h := HB3.out; have hz := h.size; exact (by repeat (first | with_reducible exact Below.refl _ _ | with_reducible assumption | with_reducible refine below_allocT ?_ _ | with_reducible refine Below.drew ?_ | with_reducible refine below_drewT ?_ _ | (with_reducible refine Below.setCell ?_ ?_ _; rotate_left; · first | exact Nat.le_refl _ | omega | (simp <;> omega)) | (with_reducible refine Below.alloc ?_ ?_ _; rotate_left; · first | omega | (simp <;> omega))))) hb4); have HR4 := Lib.hid (RefAt.stay (refAt_of w3 w3.heap.size A B C D E x y z rfl) hb4); clear hb4; obtain ⟨c0, c1, c2, c3, c4, c5, c6, c7, f0, f1, f2, f3, f4, f5, f6, f7, l0⟩ := HR4.out) | (go_at_call 10; refine (HT.out _ ?_).mono ?_; (have h := HB4.out; have hz := h.size; exact (by repeat (first | with_reducible exact Below.refl _ _ | with_reducible assumption | with_reducible refine below_allocT ?_ _ | with_reducible refine Below.drew ?_ | with_reducible refine below_drewT ?_ _ | (with_reducible refine Below.setCell ?_ ?_ _; rotate_left; · first | exact Nat.le_refl _ | omega | (simp <;> omega)) | (with_reducible refine Below.alloc ?_ ?_ _; rotate_left; · first | omega | (simp <;> omega))))); rintro e w5 ⟨rfl, hb5⟩; clear c0 c1 c2 c3 c4 c5 c6 c7 f0 f1 f2 f3 f4 f5 f6 f7 l0; have HB5 := Lib.hid (below_then (w := w) (by have h := HB4.out; have hz := h.size; exact (by repeat (first | with_reducible exact Below.refl _ _ | with_reducible assumption | with_reducible refine below_allocT ?_ _ | with_reducible refine Below.drew ?_ | with_reducible refine below_drewT ?_ _ | (with_reducible refine Below.setCell ?_ ?_ _; rotate_left; · first | exact Nat.le_refl _ | omega | (simp <;> omega)) | (with_reducible refine Below.alloc ?_ ?_ _; rotate_left; · first | omega | (simp <;> omega))))) hb5); have HR5 := Lib.hid ((HR4.out.stay ((Below.refl _ _).alloc (Nat.le_refl _) _)).stay hb5); clear hb5))
  obtain ⟨c0, c1, c2, c3, c4, c5, c6, c7, -, -, -, -, -, -, -, -, l0⟩ := HR5.out
  refine wp_region_specs (by kernel_rfl) [.is (.int .i64 2), .is (.bool true), .is (.bool true), .is undef, .is undef, .is undef, .is undef, .is undef, .is undef, .is undef, .is undef, .is undef, .is undef, .is undef, .is undef, .is undef, .is undef, .is undef, .is (.bool true), .is (.bool true)] (by kernel_rfl) ?_ ?_
  · refine ⟨?_, ?_, ?_, ?_, ?_, ?_, ?_, ?_, ?_, ?_, ?_, ?_, ?_, ?_, ?_, ?_, ?_, ?_, ?_, ?_, trivial⟩
    · intro a wq hs hb hold hdep K hK
      have f4 : a.tmps.getD 4 undef = .int .i64 2 := hold 4 (by kernel_rfl)
      refine Or.inl ⟨rfl, ?_⟩
      clear hold hdep hs
      go_simp
      exact hK _ _ rfl (Below.refl _ _)
    · intro a wq hs hb hold hdep K hK
      have f36 : a.tmps.getD 36 undef = .int .i64 2 := hdep 0 36 (by kernel_rfl) (by kernel_rfl)
      refine Or.inl ⟨rfl, ?_⟩
      clear hold hdep hs
      go_simp
      exact hK _ _ rfl (Below.refl _ _)
    · intro a wq hs hb hold hdep K hK
      have f37 : a.tmps.getD 37 undef = .bool true := hdep 1 37 (by kernel_rfl) (by kernel_rfl)
      refine Or.inl ⟨rfl, ?_⟩
      clear hold hdep hs
      go_simp
      exact hK _ _ rfl (Below.refl _ _)
    · intro a wq hs hb hold hdep K hK
      exact Or.inr ⟨unwant_of (d := 38) rfl (by kernel_rfl) (hdep 2 38 (by kernel_rfl) (by kernel_rfl)), hK _ _ rfl (Below.refl _ _)⟩
    · intro a wq hs hb hold hdep K hK
      exact Or.inr ⟨unwant_of (d := 38) rfl (by kernel_rfl) (hdep 2 38 (by kernel_rfl) (by kernel_rfl)), hK _ _ rfl (Below.refl _ _)⟩
    · intro a wq hs hb hold hdep K hK
      exact Or.inr ⟨unwant_of (d := 38) rfl (by kernel_rfl) (hdep 2 38 (by kernel_rfl) (by kernel_rfl)), hK _ _ rfl (Below.refl _ _)⟩
    · intro a wq hs hb hold hdep K hK
      exact Or.inr ⟨unwant_undef (d := 41) rfl (by kernel_rfl) (hdep 5 41 (by kernel_rfl) (by kernel_rfl)), hK _ _ rfl (Below.refl _ _)⟩
    · intro a wq hs hb hold hdep K hK
      exact Or.inr ⟨unwant_undef (d := 41) rfl (by kernel_rfl) (hdep 5 41 (by kernel_rfl) (by kernel_rfl)), hK _ _ rfl (Below.refl _ _)⟩
    · intro a wq hs hb hold hdep K hK
      exact Or.inr ⟨unwant_undef (d := 41) rfl (by kernel_rfl) (hdep 5 41 (by kernel_rfl) (by kernel_rfl)), hK _ _ rfl (Below.refl _ _)⟩
    · intro a wq hs hb hold hdep K hK
      exact Or.inr ⟨unwant_of (d := 38) rfl (by kernel_rfl) (hdep 2 38 (by kernel_rfl) (by kernel_rfl)), hK _ _ rfl (Below.refl _ _)⟩
    · intro a wq hs hb hold hdep K hK
      exact Or.inr ⟨unwant_of (d := 38) rfl (by kernel_rfl) (hdep 2 38 (by kernel_rfl) (by kernel_rfl)), hK _ _ rfl (Below.refl _ _)⟩
    · intro a wq hs hb hold hdep K hK
      exact Or.inr ⟨unwant_undef (d := 46) rfl (by kernel_rfl) (hdep 10 46 (by kernel_rfl) (by kernel_rfl)), hK _ _ rfl (Below.refl _ _)⟩
    · intro a wq hs hb hold hdep K hK
      exact Or.inr ⟨unwant_undef (d := 46) rfl (by kernel_rfl) (hdep 10 46 (by kernel_rfl) (by kernel_rfl)), hK _ _ rfl (Below.refl _ _)⟩
    · intro a wq hs hb hold hdep K hK
      exact Or.inr ⟨unwant_undef (d := 46) rfl (by kernel_rfl) (hdep 10 46 (by kernel_rfl) (by kernel_rfl)), hK _ _ rfl (Below.refl _ _)⟩
    · intro a wq hs hb hold hdep K hK
      exact Or.inr ⟨unwant_undef (d := 46) rfl (by kernel_rfl) (hdep 10 46 (by kernel_rfl) (by kernel_rfl)), hK _ _ rfl (Below.refl _ _)⟩
    · intro a wq hs hb hold hdep K hK
      exact Or.inr ⟨unwant_undef (d := 46) rfl (by kernel_rfl) (hdep 10 46 (by kernel_rfl) (by kernel_rfl)), hK _ _ rfl (Below.refl _ _)⟩
    · intro a wq hs hb hold hdep K hK
      exact Or.inr ⟨unwant_undef (d := 46) rfl (by kernel_rfl) (hdep 10 46 (by kernel_rfl) (by kernel_rfl)), hK _ _ rfl (Below.refl _ _)⟩
    · intro a wq hs hb hold hdep K hK
      exact Or.inr ⟨unwant_of (d := 38) rfl (by kernel_rfl) (hdep 2 38 (by kernel_rfl) (by kernel_rfl)), hK _ _ rfl (Below.refl _ _)⟩
    · intro a wq hs hb hold hdep K hK
      have f38 : a.tmps.getD 38 undef = .bool true := hdep 2 38 (by kernel_rfl) (by kernel_rfl)
      refine Or.inl ⟨rfl, ?_⟩
      clear hold hdep hs
      go_simp
      exact hK _ _ rfl (Below.refl _ _)
    · intro a wq hs hb hold hdep K hK
      have f54 : a.tmps.getD 54 undef = .bool true := hdep 18 54 (by kernel_rfl) (by kernel_rfl)
      refine Or.inl ⟨rfl, ?_⟩
      clear hold hdep hs
      go_simp
      exact hK _ _ rfl (Below.refl _ _)
  · intro a wq hs hd hb hold hall
    have f2 : a.tmps.getD 2 undef = .bool true := hall 19 2 (by kernel_rfl)
    have hbz : Below w.heap.size w wq := HB5.out.trans (hb.mono HB5.out.size)
    clear hold hall hs hb
    go_wp2_with fail
    refine bodyPost_ret (v := .bool true) ?_ ?_ ?_
    · rw [← f2]; exact results_tmp rfl _ _ _
    · exact hd
    · exact ⟨rfl, hbz⟩
theorem arr_back (s : ByteArray) : (⟨s.data.toList.toArray⟩ : ByteArray) = s := mkB rfl
theorem reads11_core (s0 : ByteArray) (w : World) (h0 : s0.size ≤ maxLen) (hm : MaxL w) :
    Calls Try.prog 3 #[.string s0] w fun e w' => e = .returned (.bool true) ∧ Below w.heap.size w w' := by
  have HW := Lib.hid (awake11_any w hm)
  have HF := Lib.hid (fun w1 => few11_any s0 w1 h0)
  have hz := few11_size s0
  generalize few11 s0 = s at *
  have hl : s.data.toList.length = s.size := by simp
  have HP := fun w1 (h : Below w.heap.size w w1) => UParse_any s w1 (by omega) (hm.stay h)
  have HR := fun w1 => RParse_any s w1 (by omega)
  rcases ho : Ur.parseL s.data.toList with _ | r
  · rw [ho] at HP HR
    have HT := fun w1 (h : Below w.heap.size w w1) => uText_any Ur.R.none w1 (Ur.R.none_le _) (by decide) (hm.stay h)
    rw [Ur.text_none] at HT
    exact reads11_no s0 s _ _ _ _ _ _ _ _ _ w HW HF HP HR HT
  · rw [ho] at HP HR
    have hle := (Ur.parse_le ho).mono (m := 1000) (by omega)
    have hw : Ur.write r = s.data.toList := by
      have h := Ur.text_parse ho
      unfold Ur.textR at h
      split at h
      · exact Option.some.inj h
      · cases h
    have HT := fun w1 (h : Below w.heap.size w w1) => uText_any r w1 hle (by rw [hw]; omega) (hm.stay h)
    rw [Ur.text_parse ho] at HT
    have ht : txV (some s.data.toList) = .tuple #[.string s, .int .i64 0] := by
      show Value.tuple #[.string ⟨s.data.toList.toArray⟩, _] = _
      rw [arr_back]
    rw [ht] at HT
    have HB := fun w1 => uBase_any r w1 hle
    have HH := fun w1 => RHead_any ⟨r.sch.toArray⟩ ⟨r.au.toArray⟩ ⟨r.pa.toArray⟩ ⟨r.qu.toArray⟩ ⟨r.fr.toArray⟩ r.hA r.hQ r.hF w1 (by rw [arr_size]; exact hle.sch) (by rw [arr_size]; exact hle.au)
    rw [arr_list, arr_list] at HH
    have hbl : (Ur.base r).length ≤ 2003 := by
      have e1 := hle.sch
      have e2 := hle.au
      unfold Ur.base Ur.schT Ur.mk
      rw [List.length_append]
      split <;> split <;> simp <;> omega
    have HO := fun w1 => RFold_any ⟨(Ur.base r).toArray⟩ w1 (by rw [arr_size]; omega)
    unfold B.foldS at HO
    rw [arr_list] at HO
    exact reads11_yes s0 s _ _ _ _ _ _ _ _ _ _ w HW HF HP HR HT HB HH HO
end Go.Proofs.Ytnnhlkbjdfgcaaa
