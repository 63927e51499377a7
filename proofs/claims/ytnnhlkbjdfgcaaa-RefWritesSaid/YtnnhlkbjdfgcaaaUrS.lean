/- The document's Text: contract. -/
import Derived.Test.YtnnhlkbjdfgcaaaUrR
import Derived.Test.YtnnhlkbjdfgcaaaUrQ
import Derived.Test.YtnnhlkbjdfgcaaaUrK
namespace Go.Proofs.Ytnnhlkbjdfgcaaa
open Go.RowKit
set_option maxRecDepth 10000 in
set_option maxHeartbeats 1600000 in
theorem RText_none (A B C D E : ByteArray) (x y z : Bool) (A1 B1 C1 D1 E1 : ByteArray) (x1 y1 z1 : Bool) (BA X : ByteArray) (w : World) (h0 : A.size ≤ 1000) (h1 : B.size ≤ 1000) (h2 : C.size ≤ 1000) (h3 : D.size ≤ 1000) (h4 : E.size ≤ 1000)
    (hBA : BA.data.toList = Ur.schT A.data.toList ++ Ur.mk x [47, 47] B.data.toList) (hX : X.data.toList = BA.data.toList ++ (C.data.toList ++ (Ur.mk y [63] D.data.toList ++ Ur.mk z [35] E.data.toList)))
    (HP : ∀ w1, Below w.heap.size w w1 → Calls Try.prog 9 #[.string X] w1 fun e w' => e = .returned (.tuple #[rF A1 B1 C1 D1 E1 x1 y1 z1, .int .i64 2]) ∧ Below w1.heap.size w1 w') :
    Calls Try.prog 14 #[rF A B C D E x y z] w fun e w' => e = .returned (.tuple #[.string ⟨#[]⟩, .int .i64 2]) ∧ Below w.heap.size w w' := by
  have HH := Lib.hid (fun w1 => RHead_any A B C D E x y z w1 h0 h1)
  rw [← hBA, mkB (S := BA) rfl] at HH
  have HX := Lib.hid hX
  have HPH := Lib.hid HP
  have hBs : BA.size ≤ 2003 := by
    have e0 : BA.data.toList.length = BA.size := by simp
    have e1 : A.data.toList.length = A.size := by simp
    have e2 : B.data.toList.length = B.size := by simp
    rw [← e0, hBA]
    unfold Ur.schT Ur.mk
    rw [List.length_append]
    split <;> split <;> simp <;> omega
  obtain ⟨Y, hY, zY⟩ : ∃ Y : ByteArray, Y.data.toList = BA.data.toList ++ (C.data.toList ++ Ur.mk y [63] D.data.toList) ∧ Y.size ≤ 5000 := by
    refine ⟨⟨(BA.data.toList ++ (C.data.toList ++ Ur.mk y [63] D.data.toList)).toArray⟩, by simp, ?_⟩
    rw [arr_size]
    unfold Ur.mk
    rw [List.length_append, List.length_append]
    split <;> simp <;> omega
  have HY := Lib.hid hY
  have HB0 := Lib.hid ((Below.refl w.heap.size w).alloc (Nat.le_refl _) (.cells #[.string A, .string B, .string C, .string D, .string E, .bool x, .bool y, .bool z] 25))
  have hR := refAt_new w A B C D E x y z
  clear hBA hX HP hY
  unfold rF at *
  go_enter Try.func14, Try.ntmps14
  go_wp2_with fail
  obtain ⟨c0, c1, c2, c3, c4, c5, c6, c7, f0, f1, f2, f3, f4, f5, f6, f7, l0⟩ := hR
  generalize w.alloc (.cells #[.string A, .string B, .string C, .string D, .string E, .bool x, .bool y, .bool z] 25) = W1 at *
  refine wp_region_specs (by kernel_rfl) [.is (.agg #[.string A, .string B, .string C, .string D, .string E, .bool x, .bool y, .bool z]), .is (.string BA), .is (.pointer (some ⟨w.heap.size, 2, none⟩)), .is (.string C), .is (.string (BA ++ C)), .is (.string (BA ++ C))] (by kernel_rfl) ?_ ?_
  · refine ⟨?_, ?_, ?_, ?_, ?_, ?_, trivial⟩
    · intro a wq hs hb hold hdep K hK
      have f1 : a.tmps.getD 1 undef = .pointer (some ⟨w.heap.size, 0, none⟩) := hold 1 (by kernel_rfl)
      refine Or.inl ⟨rfl, ?_⟩
      clear hold hdep hs
      have e0 := below_cell hb l0 c0
      have e1 := below_cell hb l0 c1
      have e2 := below_cell hb l0 c2
      have e3 := below_cell hb l0 c3
      have e4 := below_cell hb l0 c4
      have e5 := below_cell hb l0 c5
      have e6 := below_cell hb l0 c6
      have e7 := below_cell hb l0 c7
      go_simp
      exact hK _ _ rfl (Below.refl _ _)
    · intro a wq hs hb hold hdep K hK
      have f7 : a.tmps.getD 7 undef = .agg #[.string A, .string B, .string C, .string D, .string E, .bool x, .bool y, .bool z] := hdep 0 7 (by kernel_rfl) (by kernel_rfl)
      refine Or.inl ⟨rfl, ?_⟩
      clear hold hdep hs
      go_simp
      refine (HH.out _).mono ?_
      rintro e w9 ⟨rfl, hb9⟩
      exact hK _ _ rfl hb9
    · intro a wq hs hb hold hdep K hK
      have f1 : a.tmps.getD 1 undef = .pointer (some ⟨w.heap.size, 0, none⟩) := hold 1 (by kernel_rfl)
      refine Or.inl ⟨rfl, ?_⟩
      clear hold hdep hs
      go_simp
      exact hK _ _ rfl (Below.refl _ _)
    · intro a wq hs hb hold hdep K hK
      have f9 : a.tmps.getD 9 undef = .pointer (some ⟨w.heap.size, 2, none⟩) := hdep 2 9 (by kernel_rfl) (by kernel_rfl)
      refine Or.inl ⟨rfl, ?_⟩
      clear hold hdep hs
      have e2 := below_cell hb l0 c2
      go_simp
      exact hK _ _ rfl (Below.refl _ _)
    · intro a wq hs hb hold hdep K hK
      have f8 : a.tmps.getD 8 undef = .string BA := hdep 1 8 (by kernel_rfl) (by kernel_rfl)
      have f10 : a.tmps.getD 10 undef = .string C := hdep 3 10 (by kernel_rfl) (by kernel_rfl)
      refine Or.inl ⟨rfl, ?_⟩
      clear hold hdep hs
      have hz9 : ¬ 9223372036854775807 < BA.size + C.size := by omega
      go_simp
      exact hK _ _ rfl (Below.refl _ _)
    · intro a wq hs hb hold hdep K hK
      have f11 : a.tmps.getD 11 undef = .string (BA ++ C) := hdep 4 11 (by kernel_rfl) (by kernel_rfl)
      refine Or.inl ⟨rfl, ?_⟩
      clear hold hdep hs
      go_simp
      exact hK _ _ rfl (Below.refl _ _)
  · intro a wq hs hd hb hold hall
    have f4 : a.tmps.getD 4 undef = .string (BA ++ C) := hall 5 4 (by kernel_rfl)
    have f1 : a.tmps.getD 1 undef = .pointer (some ⟨w.heap.size, 0, none⟩) := hold 1 (by kernel_rfl)
    have hR1 : RefAt wq w.heap.size A B C D E x y z := RefAt.stay (by constructor <;> assumption) hb
    have HBZ := Lib.hid (HB0.out.trans (hb.mono HB0.out.size))
    clear hold hall hb c0 c1 c2 c3 c4 c5 c6 c7 f0 f2 f3 f5 f6 f7 l0
    have eA := act_eq a 39 hs hd
    simp only [List.range, List.range.loop, List.map] at eA
    rw [f1, f4] at eA
    clear hs hd f1 f4
    generalize a.tmps.getD 0 undef = u0 at eA
    generalize a.tmps.getD 2 undef = u2 at eA
    generalize a.tmps.getD 3 undef = u3 at eA
    generalize a.tmps.getD 5 undef = u5 at eA
    generalize a.tmps.getD 6 undef = u6 at eA
    generalize a.tmps.getD 7 undef = u7 at eA
    generalize a.tmps.getD 8 undef = u8 at eA
    generalize a.tmps.getD 9 undef = u9 at eA
    generalize a.tmps.getD 10 undef = u10 at eA
    generalize a.tmps.getD 11 undef = u11 at eA
    generalize a.tmps.getD 12 undef = u12 at eA
    generalize a.tmps.getD 13 undef = u13 at eA
    generalize a.tmps.getD 14 undef = u14 at eA
    generalize a.tmps.getD 15 undef = u15 at eA
    generalize a.tmps.getD 16 undef = u16 at eA
    generalize a.tmps.getD 17 undef = u17 at eA
    generalize a.tmps.getD 18 undef = u18 at eA
    generalize a.tmps.getD 19 undef = u19 at eA
    generalize a.tmps.getD 20 undef = u20 at eA
    generalize a.tmps.getD 21 undef = u21 at eA
    generalize a.tmps.getD 22 undef = u22 at eA
    generalize a.tmps.getD 23 undef = u23 at eA
    generalize a.tmps.getD 24 undef = u24 at eA
    generalize a.tmps.getD 25 undef = u25 at eA
    generalize a.tmps.getD 26 undef = u26 at eA
    generalize a.tmps.getD 27 undef = u27 at eA
    generalize a.tmps.getD 28 undef = u28 at eA
    generalize a.tmps.getD 29 undef = u29 at eA
    generalize a.tmps.getD 30 undef = u30 at eA
    generalize a.tmps.getD 31 undef = u31 at eA
    generalize a.tmps.getD 32 undef = u32 at eA
    generalize a.tmps.getD 33 undef = u33 at eA
    generalize a.tmps.getD 34 undef = u34 at eA
    generalize a.tmps.getD 35 undef = u35 at eA
    generalize a.tmps.getD 36 undef = u36 at eA
    generalize a.tmps.getD 37 undef = u37 at eA
    generalize a.tmps.getD 38 undef = u38 at eA
    subst eA
    have HR1 := Lib.hid hR1
    obtain ⟨c0, c1, c2, c3, c4, c5, c6, c7, f0, f1, f2, f3, f4, f5, f6, f7, l0⟩ := hR1
    go_upto_if 13 with fail
    go_cut [4] (fun s4 wx => s4 = .string Y ∧ wx = wq)
    case first =>
      have hy := HY.out
      cases y
      · obtain rfl : Y = BA ++ C := bytes_eq (by rw [hy, list_append]; simp [Ur.mk])
        clear hy
        go_wp2_with fail
        go_meet
        exact ⟨rfl, rfl⟩
      · have hq : BA ++ C ++ ⟨#[63]⟩ ++ D = Y := bytes_eq (by rw [hy, list_append, list_append, list_append]; simp [Ur.mk])
        have HQ := Lib.hid hq
        clear hy hq
        go_wp2_with fail
        go_meet
        exact ⟨by rw [HQ.out], rfl⟩
    obtain ⟨hs4, hwc⟩ := hcut
    subst hs4
    rw [hwc]
    clear hwc wc
    go_upto_if 20 with fail
    go_cut [4] (fun s4 wx => s4 = .string X ∧ wx = wq)
    case first =>
      have hx := HX.out
      have hy := HY.out
      cases z
      · obtain rfl : X = Y := bytes_eq (by rw [hx, hy]; simp [Ur.mk])
        clear hx hy
        go_wp2_with fail
        go_meet
        exact ⟨rfl, rfl⟩
      · have hq : Y ++ ⟨#[35]⟩ ++ E = X := bytes_eq (by rw [hx, list_append, list_append, hy]; simp [Ur.mk])
        have HQ := Lib.hid hq
        clear hx hy hq
        go_wp2_with fail
        go_meet
        exact ⟨by rw [HQ.out], rfl⟩
    obtain ⟨hs4, hwc⟩ := hcut
    subst hs4
    rw [hwc]
    clear hwc wc c0 c1 c2 c3 c4 c5 c6 c7 f0 f1 f2 f3 f4 f5 f6 f7 l0 HX HY HH
    go_wp2_with (go_at_call 9; refine (HPH.out _ HBZ.out).mono ?_; rintro e w2 ⟨rfl, hb2⟩; have HB2 := Lib.hid (below_then HBZ.out hb2); obtain ⟨c0, c1, c2, c3, c4, c5, c6, c7, f0, f1, f2, f3, f4, f5, f6, f7, l0⟩ := HR1.out.stay hb2; clear hb2)
    all_goals
      go_ret2
      refine ⟨rfl, ?_⟩
      have h := HB2.out
      have hz := h.size
      exact (by repeat (first | with_reducible exact Below.refl _ _ | with_reducible assumption | with_reducible refine below_allocT ?_ _ | with_reducible refine Below.drew ?_ | with_reducible refine below_drewT ?_ _ | (with_reducible refine Below.setCell ?_ ?_ _; rotate_left; · first | exact Nat.le_refl _ | omega | (simp <;> omega)) | (with_reducible refine Below.alloc ?_ ?_ _; rotate_left; · first | omega | (simp <;> omega))))
set_option maxRecDepth 10000 in
set_option maxHeartbeats 1600000 in
theorem RText_same (A B C D E : ByteArray) (x y z : Bool) (BA X : ByteArray) (w : World) (h0 : A.size ≤ 1000) (h1 : B.size ≤ 1000) (h2 : C.size ≤ 1000) (h3 : D.size ≤ 1000) (h4 : E.size ≤ 1000)
    (hBA : BA.data.toList = Ur.schT A.data.toList ++ Ur.mk x [47, 47] B.data.toList) (hX : X.data.toList = BA.data.toList ++ (C.data.toList ++ (Ur.mk y [63] D.data.toList ++ Ur.mk z [35] E.data.toList)))
    (HP : ∀ w1, Below w.heap.size w w1 → Calls Try.prog 9 #[.string X] w1 fun e w' => e = .returned (.tuple #[rF A B C D E x y z, .int .i64 0]) ∧ Below w1.heap.size w1 w') :
    Calls Try.prog 14 #[rF A B C D E x y z] w fun e w' => e = .returned (.tuple #[.string X, .int .i64 0]) ∧ Below w.heap.size w w' := by
  have HH := Lib.hid (fun w1 => RHead_any A B C D E x y z w1 h0 h1)
  rw [← hBA, mkB (S := BA) rfl] at HH
  have HX := Lib.hid hX
  have HPH := Lib.hid HP
  have hBs : BA.size ≤ 2003 := by
    have e0 : BA.data.toList.length = BA.size := by simp
    have e1 : A.data.toList.length = A.size := by simp
    have e2 : B.data.toList.length = B.size := by simp
    rw [← e0, hBA]
    unfold Ur.schT Ur.mk
    rw [List.length_append]
    split <;> split <;> simp <;> omega
  obtain ⟨Y, hY, zY⟩ : ∃ Y : ByteArray, Y.data.toList = BA.data.toList ++ (C.data.toList ++ Ur.mk y [63] D.data.toList) ∧ Y.size ≤ 5000 := by
    refine ⟨⟨(BA.data.toList ++ (C.data.toList ++ Ur.mk y [63] D.data.toList)).toArray⟩, by simp, ?_⟩
    rw [arr_size]
    unfold Ur.mk
    rw [List.length_append, List.length_append]
    split <;> simp <;> omega
  have HY := Lib.hid hY
  have HB0 := Lib.hid ((Below.refl w.heap.size w).alloc (Nat.le_refl _) (.cells #[.string A, .string B, .string C, .string D, .string E, .bool x, .bool y, .bool z] 25))
  have hR := refAt_new w A B C D E x y z
  clear hBA hX HP hY
  unfold rF at *
  go_enter Try.func14, Try.ntmps14
  go_wp2_with fail
  obtain ⟨c0, c1, c2, c3, c4, c5, c6, c7, f0, f1, f2, f3, f4, f5, f6, f7, l0⟩ := hR
  generalize w.alloc (.cells #[.string A, .string B, .string C, .string D, .string E, .bool x, .bool y, .bool z] 25) = W1 at *
  refine wp_region_specs (by kernel_rfl) [.is (.agg #[.string A, .string B, .string C, .string D, .string E, .bool x, .bool y, .bool z]), .is (.string BA), .is (.pointer (some ⟨w.heap.size, 2, none⟩)), .is (.string C), .is (.string (BA ++ C)), .is (.string (BA ++ C))] (by kernel_rfl) ?_ ?_
  · refine ⟨?_, ?_, ?_, ?_, ?_, ?_, trivial⟩
    · intro a wq hs hb hold hdep K hK
      have f1 : a.tmps.getD 1 undef = .pointer (some ⟨w.heap.size, 0, none⟩) := hold 1 (by kernel_rfl)
      refine Or.inl ⟨rfl, ?_⟩
      clear hold hdep hs
      have e0 := below_cell hb l0 c0
      have e1 := below_cell hb l0 c1
      have e2 := below_cell hb l0 c2
      have e3 := below_cell hb l0 c3
      have e4 := below_cell hb l0 c4
      have e5 := below_cell hb l0 c5
      have e6 := below_cell hb l0 c6
      have e7 := below_cell hb l0 c7
      go_simp
      exact hK _ _ rfl (Below.refl _ _)
    · intro a wq hs hb hold hdep K hK
      have f7 : a.tmps.getD 7 undef = .agg #[.string A, .string B, .string C, .string D, .string E, .bool x, .bool y, .bool z] := hdep 0 7 (by kernel_rfl) (by kernel_rfl)
      refine Or.inl ⟨rfl, ?_⟩
      clear hold hdep hs
      go_simp
      refine (HH.out _).mono ?_
      rintro e w9 ⟨rfl, hb9⟩
      exact hK _ _ rfl hb9
    · intro a wq hs hb hold hdep K hK
      have f1 : a.tmps.getD 1 undef = .pointer (some ⟨w.heap.size, 0, none⟩) := hold 1 (by kernel_rfl)
      refine Or.inl ⟨rfl, ?_⟩
      clear hold hdep hs
      go_simp
      exact hK _ _ rfl (Below.refl _ _)
    · intro a wq hs hb hold hdep K hK
      have f9 : a.tmps.getD 9 undef = .pointer (some ⟨w.heap.size, 2, none⟩) := hdep 2 9 (by kernel_rfl) (by kernel_rfl)
      refine Or.inl ⟨rfl, ?_⟩
      clear hold hdep hs
      have e2 := below_cell hb l0 c2
      go_simp
      exact hK _ _ rfl (Below.refl _ _)
    · intro a wq hs hb hold hdep K hK
      have f8 : a.tmps.getD 8 undef = .string BA := hdep 1 8 (by kernel_rfl) (by kernel_rfl)
      have f10 : a.tmps.getD 10 undef = .string C := hdep 3 10 (by kernel_rfl) (by kernel_rfl)
      refine Or.inl ⟨rfl, ?_⟩
      clear hold hdep hs
      have hz9 : ¬ 9223372036854775807 < BA.size + C.size := by omega
      go_simp
      exact hK _ _ rfl (Below.refl _ _)
    · intro a wq hs hb hold hdep K hK
      have f11 : a.tmps.getD 11 undef = .string (BA ++ C) := hdep 4 11 (by kernel_rfl) (by kernel_rfl)
      refine Or.inl ⟨rfl, ?_⟩
      clear hold hdep hs
      go_simp
      exact hK _ _ rfl (Below.refl _ _)
  · intro a wq hs hd hb hold hall
    have f4 : a.tmps.getD 4 undef = .string (BA ++ C) := hall 5 4 (by kernel_rfl)
    have f1 : a.tmps.getD 1 undef = .pointer (some ⟨w.heap.size, 0, none⟩) := hold 1 (by kernel_rfl)
    have hR1 : RefAt wq w.heap.size A B C D E x y z := RefAt.stay (by constructor <;> assumption) hb
    have HBZ := Lib.hid (HB0.out.trans (hb.mono HB0.out.size))
    clear hold hall hb c0 c1 c2 c3 c4 c5 c6 c7 f0 f2 f3 f5 f6 f7 l0
    have eA := act_eq a 39 hs hd
    simp only [List.range, List.range.loop, List.map] at eA
    rw [f1, f4] at eA
    clear hs hd f1 f4
    generalize a.tmps.getD 0 undef = u0 at eA
    generalize a.tmps.getD 2 undef = u2 at eA
    generalize a.tmps.getD 3 undef = u3 at eA
    generalize a.tmps.getD 5 undef = u5 at eA
    generalize a.tmps.getD 6 undef = u6 at eA
    generalize a.tmps.getD 7 undef = u7 at eA
    generalize a.tmps.getD 8 undef = u8 at eA
    generalize a.tmps.getD 9 undef = u9 at eA
    generalize a.tmps.getD 10 undef = u10 at eA
    generalize a.tmps.getD 11 undef = u11 at eA
    generalize a.tmps.getD 12 undef = u12 at eA
    generalize a.tmps.getD 13 undef = u13 at eA
    generalize a.tmps.getD 14 undef = u14 at eA
    generalize a.tmps.getD 15 undef = u15 at eA
    generalize a.tmps.getD 16 undef = u16 at eA
    generalize a.tmps.getD 17 undef = u17 at eA
    generalize a.tmps.getD 18 undef = u18 at eA
    generalize a.tmps.getD 19 undef = u19 at eA
    generalize a.tmps.getD 20 undef = u20 at eA
    generalize a.tmps.getD 21 undef = u21 at eA
    generalize a.tmps.getD 22 undef = u22 at eA
    generalize a.tmps.getD 23 undef = u23 at eA
    generalize a.tmps.getD 24 undef = u24 at eA
    generalize a.tmps.getD 25 undef = u25 at eA
    generalize a.tmps.getD 26 undef = u26 at eA
    generalize a.tmps.getD 27 undef = u27 at eA
    generalize a.tmps.getD 28 undef = u28 at eA
    generalize a.tmps.getD 29 undef = u29 at eA
    generalize a.tmps.getD 30 undef = u30 at eA
    generalize a.tmps.getD 31 undef = u31 at eA
    generalize a.tmps.getD 32 undef = u32 at eA
    generalize a.tmps.getD 33 undef = u33 at eA
    generalize a.tmps.getD 34 undef = u34 at eA
    generalize a.tmps.getD 35 undef = u35 at eA
    generalize a.tmps.getD 36 undef = u36 at eA
    generalize a.tmps.getD 37 undef = u37 at eA
    generalize a.tmps.getD 38 undef = u38 at eA
    subst eA
    have HR1 := Lib.hid hR1
    obtain ⟨c0, c1, c2, c3, c4, c5, c6, c7, f0, f1, f2, f3, f4, f5, f6, f7, l0⟩ := hR1
    go_upto_if 13 with fail
    go_cut [4] (fun s4 wx => s4 = .string Y ∧ wx = wq)
    case first =>
      have hy := HY.out
      cases y
      · obtain rfl : Y = BA ++ C := bytes_eq (by rw [hy, list_append]; simp [Ur.mk])
        clear hy
        go_wp2_with fail
        go_meet
        exact ⟨rfl, rfl⟩
      · have hq : BA ++ C ++ ⟨#[63]⟩ ++ D = Y := bytes_eq (by rw [hy, list_append, list_append, list_append]; simp [Ur.mk])
        have HQ := Lib.hid hq
        clear hy hq
        go_wp2_with fail
        go_meet
        exact ⟨by rw [HQ.out], rfl⟩
    obtain ⟨hs4, hwc⟩ := hcut
    subst hs4
    rw [hwc]
    clear hwc wc
    go_upto_if 20 with fail
    go_cut [4] (fun s4 wx => s4 = .string X ∧ wx = wq)
    case first =>
      have hx := HX.out
      have hy := HY.out
      cases z
      · obtain rfl : X = Y := bytes_eq (by rw [hx, hy]; simp [Ur.mk])
        clear hx hy
        go_wp2_with fail
        go_meet
        exact ⟨rfl, rfl⟩
      · have hq : Y ++ ⟨#[35]⟩ ++ E = X := bytes_eq (by rw [hx, list_append, list_append, hy]; simp [Ur.mk])
        have HQ := Lib.hid hq
        clear hx hy hq
        go_wp2_with fail
        go_meet
        exact ⟨by rw [HQ.out], rfl⟩
    obtain ⟨hs4, hwc⟩ := hcut
    subst hs4
    rw [hwc]
    clear hwc wc c0 c1 c2 c3 c4 c5 c6 c7 f0 f1 f2 f3 f4 f5 f6 f7 l0 HX HY HH
    go_wp2_with (go_at_call 9; refine (HPH.out _ HBZ.out).mono ?_; rintro e w2 ⟨rfl, hb2⟩; have HB2 := Lib.hid (below_then HBZ.out hb2); obtain ⟨c0, c1, c2, c3, c4, c5, c6, c7, f0, f1, f2, f3, f4, f5, f6, f7, l0⟩ := HR1.out.stay hb2; clear hb2)
    all_goals
      go_ret2
      refine ⟨rfl, ?_⟩
      have h := HB2.out
      have hz := h.size
      exact (by repeat (first | with_reducible exact Below.refl _ _ | with_reducible assumption | with_reducible refine below_allocT ?_ _ | with_reducible refine Below.drew ?_ | with_reducible refine below_drewT ?_ _ | (with_reducible refine Below.setCell ?_ ?_ _; rotate_left; · first | exact Nat.le_refl _ | omega | (simp <;> omega)) | (with_reducible refine Below.alloc ?_ ?_ _; rotate_left; · first | omega | (simp <;> omega))))
set_option maxRecDepth 10000 in
set_option maxHeartbeats 1600000 in
theorem RText_other (A B C D E : ByteArray) (x y z : Bool) (A1 B1 C1 D1 E1 : ByteArray) (x1 y1 z1 : Bool) (BA X : ByteArray) (w : World) (h0 : A.size ≤ 1000) (h1 : B.size ≤ 1000) (h2 : C.size ≤ 1000) (h3 : D.size ≤ 1000) (h4 : E.size ≤ 1000)
    (hBA : BA.data.toList = Ur.schT A.data.toList ++ Ur.mk x [47, 47] B.data.toList) (hX : X.data.toList = BA.data.toList ++ (C.data.toList ++ (Ur.mk y [63] D.data.toList ++ Ur.mk z [35] E.data.toList)))
    (HP : ∀ w1, Below w.heap.size w w1 → Calls Try.prog 9 #[.string X] w1 fun e w' => e = .returned (.tuple #[rF A1 B1 C1 D1 E1 x1 y1 z1, .int .i64 0]) ∧ Below w1.heap.size w1 w')
    (hne : ¬ (A1.toList = A.toList ∧ B1.toList = B.toList ∧ C1.toList = C.toList ∧ D1.toList = D.toList ∧ E1.toList = E.toList ∧ x1 = x ∧ y1 = y ∧ z1 = z)) :
    Calls Try.prog 14 #[rF A B C D E x y z] w fun e w' => e = .returned (.tuple #[.string ⟨#[]⟩, .int .i64 2]) ∧ Below w.heap.size w w' := by
  have HH := Lib.hid (fun w1 => RHead_any A B C D E x y z w1 h0 h1)
  rw [← hBA, mkB (S := BA) rfl] at HH
  have HX := Lib.hid hX
  have HPH := Lib.hid HP
  have HN := Lib.hid hne
  clear hne
  have hBs : BA.size ≤ 2003 := by
    have e0 : BA.data.toList.length = BA.size := by simp
    have e1 : A.data.toList.length = A.size := by simp
    have e2 : B.data.toList.length = B.size := by simp
    rw [← e0, hBA]
    unfold Ur.schT Ur.mk
    rw [List.length_append]
    split <;> split <;> simp <;> omega
  obtain ⟨Y, hY, zY⟩ : ∃ Y : ByteArray, Y.data.toList = BA.data.toList ++ (C.data.toList ++ Ur.mk y [63] D.data.toList) ∧ Y.size ≤ 5000 := by
    refine ⟨⟨(BA.data.toList ++ (C.data.toList ++ Ur.mk y [63] D.data.toList)).toArray⟩, by simp, ?_⟩
    rw [arr_size]
    unfold Ur.mk
    rw [List.length_append, List.length_append]
    split <;> simp <;> omega
  have HY := Lib.hid hY
  have HB0 := Lib.hid ((Below.refl w.heap.size w).alloc (Nat.le_refl _) (.cells #[.string A, .string B, .string C, .string D, .string E, .bool x, .bool y, .bool z] 25))
  have hR := refAt_new w A B C D E x y z
  clear hBA hX HP hY
  unfold rF at *
  go_enter Try.func14, Try.ntmps14
  go_wp2_with fail
  obtain ⟨c0, c1, c2, c3, c4, c5, c6, c7, f0, f1, f2, f3, f4, f5, f6, f7, l0⟩ := hR
  generalize w.alloc (.cells #[.string A, .string B, .string C, .string D, .string E, .bool x, .bool y, .bool z] 25) = W1 at *
  refine wp_region_specs (by kernel_rfl) [.is (.agg #[.string A, .string B, .string C, .string D, .string E, .bool x, .bool y, .bool z]), .is (.string BA), .is (.pointer (some ⟨w.heap.size, 2, none⟩)), .is (.string C), .is (.string (BA ++ C)), .is (.string (BA ++ C))] (by kernel_rfl) ?_ ?_
  · refine ⟨?_, ?_, ?_, ?_, ?_, ?_, trivial⟩
    · intro a wq hs hb hold hdep K hK
      have f1 : a.tmps.getD 1 undef = .pointer (some ⟨w.heap.size, 0, none⟩) := hold 1 (by kernel_rfl)
      refine Or.inl ⟨rfl, ?_⟩
      clear hold hdep hs
      have e0 := below_cell hb l0 c0
      have e1 := below_cell hb l0 c1
      have e2 := below_cell hb l0 c2
      have e3 := below_cell hb l0 c3
      have e4 := below_cell hb l0 c4
      have e5 := below_cell hb l0 c5
      have e6 := below_cell hb l0 c6
      have e7 := below_cell hb l0 c7
      go_simp
      exact hK _ _ rfl (Below.refl _ _)
    · intro a wq hs hb hold hdep K hK
      have f7 : a.tmps.getD 7 undef = .agg #[.string A, .string B, .string C, .string D, .string E, .bool x, .bool y, .bool z] := hdep 0 7 (by kernel_rfl) (by kernel_rfl)
      refine Or.inl ⟨rfl, ?_⟩
      clear hold hdep hs
      go_simp
      refine (HH.out _).mono ?_
      rintro e w9 ⟨rfl, hb9⟩
      exact hK _ _ rfl hb9
    · intro a wq hs hb hold hdep K hK
      have f1 : a.tmps.getD 1 undef = .pointer (some ⟨w.heap.size, 0, none⟩) := hold 1 (by kernel_rfl)
      refine Or.inl ⟨rfl, ?_⟩
      clear hold hdep hs
      go_simp
      exact hK _ _ rfl (Below.refl _ _)
    · intro a wq hs hb hold hdep K hK
      have f9 : a.tmps.getD 9 undef = .pointer (some ⟨w.heap.size, 2, none⟩) := hdep 2 9 (by kernel_rfl) (by kernel_rfl)
      refine Or.inl ⟨rfl, ?_⟩
      clear hold hdep hs
      have e2 := below_cell hb l0 c2
      go_simp
      exact hK _ _ rfl (Below.refl _ _)
    · intro a wq hs hb hold hdep K hK
      have f8 : a.tmps.getD 8 undef = .string BA := hdep 1 8 (by kernel_rfl) (by kernel_rfl)
      have f10 : a.tmps.getD 10 undef = .string C := hdep 3 10 (by kernel_rfl) (by kernel_rfl)
      refine Or.inl ⟨rfl, ?_⟩
      clear hold hdep hs
      have hz9 : ¬ 9223372036854775807 < BA.size + C.size := by omega
      go_simp
      exact hK _ _ rfl (Below.refl _ _)
    · intro a wq hs hb hold hdep K hK
      have f11 : a.tmps.getD 11 undef = .string (BA ++ C) := hdep 4 11 (by kernel_rfl) (by kernel_rfl)
      refine Or.inl ⟨rfl, ?_⟩
      clear hold hdep hs
      go_simp
      exact hK _ _ rfl (Below.refl _ _)
  · intro a wq hs hd hb hold hall
    have f4 : a.tmps.getD 4 undef = .string (BA ++ C) := hall 5 4 (by kernel_rfl)
    have f1 : a.tmps.getD 1 undef = .pointer (some ⟨w.heap.size, 0, none⟩) := hold 1 (by kernel_rfl)
    have hR1 : RefAt wq w.heap.size A B C D E x y z := RefAt.stay (by constructor <;> assumption) hb
    have HBZ := Lib.hid (HB0.out.trans (hb.mono HB0.out.size))
    clear hold hall hb c0 c1 c2 c3 c4 c5 c6 c7 f0 f2 f3 f5 f6 f7 l0
    have eA := act_eq a 39 hs hd
    simp only [List.range, List.range.loop, List.map] at eA
    rw [f1, f4] at eA
    clear hs hd f1 f4
    generalize a.tmps.getD 0 undef = u0 at eA
    generalize a.tmps.getD 2 undef = u2 at eA
    generalize a.tmps.getD 3 undef = u3 at eA
    generalize a.tmps.getD 5 undef = u5 at eA
    generalize a.tmps.getD 6 undef = u6 at eA
    generalize a.tmps.getD 7 undef = u7 at eA
    generalize a.tmps.getD 8 undef = u8 at eA
    generalize a.tmps.getD 9 undef = u9 at eA
    generalize a.tmps.getD 10 undef = u10 at eA
    generalize a.tmps.getD 11 undef = u11 at eA
    generalize a.tmps.getD 12 undef = u12 at eA
    generalize a.tmps.getD 13 undef = u13 at eA
    generalize a.tmps.getD 14 undef = u14 at eA
    generalize a.tmps.getD 15 undef = u15 at eA
    generalize a.tmps.getD 16 undef = u16 at eA
    generalize a.tmps.getD 17 undef = u17 at eA
    generalize a.tmps.getD 18 undef = u18 at eA
    generalize a.tmps.getD 19 undef = u19 at eA
    generalize a.tmps.getD 20 undef = u20 at eA
    generalize a.tmps.getD 21 undef = u21 at eA
    generalize a.tmps.getD 22 undef = u22 at eA
    generalize a.tmps.getD 23 undef = u23 at eA
    generalize a.tmps.getD 24 undef = u24 at eA
    generalize a.tmps.getD 25 undef = u25 at eA
    generalize a.tmps.getD 26 undef = u26 at eA
    generalize a.tmps.getD 27 undef = u27 at eA
    generalize a.tmps.getD 28 undef = u28 at eA
    generalize a.tmps.getD 29 undef = u29 at eA
    generalize a.tmps.getD 30 undef = u30 at eA
    generalize a.tmps.getD 31 undef = u31 at eA
    generalize a.tmps.getD 32 undef = u32 at eA
    generalize a.tmps.getD 33 undef = u33 at eA
    generalize a.tmps.getD 34 undef = u34 at eA
    generalize a.tmps.getD 35 undef = u35 at eA
    generalize a.tmps.getD 36 undef = u36 at eA
    generalize a.tmps.getD 37 undef = u37 at eA
    generalize a.tmps.getD 38 undef = u38 at eA
    subst eA
    have HR1 := Lib.hid hR1
    obtain ⟨c0, c1, c2, c3, c4, c5, c6, c7, f0, f1, f2, f3, f4, f5, f6, f7, l0⟩ := hR1
    go_upto_if 13 with fail
    go_cut [4] (fun s4 wx => s4 = .string Y ∧ wx = wq)
    case first =>
      have hy := HY.out
      cases y
      · obtain rfl : Y = BA ++ C := bytes_eq (by rw [hy, list_append]; simp [Ur.mk])
        clear hy
        go_wp2_with fail
        go_meet
        exact ⟨rfl, rfl⟩
      · have hq : BA ++ C ++ ⟨#[63]⟩ ++ D = Y := bytes_eq (by rw [hy, list_append, list_append, list_append]; simp [Ur.mk])
        have HQ := Lib.hid hq
        clear hy hq
        go_wp2_with fail
        go_meet
        exact ⟨by rw [HQ.out], rfl⟩
    obtain ⟨hs4, hwc⟩ := hcut
    subst hs4
    rw [hwc]
    clear hwc wc
    go_upto_if 20 with fail
    go_cut [4] (fun s4 wx => s4 = .string X ∧ wx = wq)
    case first =>
      have hx := HX.out
      have hy := HY.out
      cases z
      · obtain rfl : X = Y := bytes_eq (by rw [hx, hy]; simp [Ur.mk])
        clear hx hy
        go_wp2_with fail
        go_meet
        exact ⟨rfl, rfl⟩
      · have hq : Y ++ ⟨#[35]⟩ ++ E = X := bytes_eq (by rw [hx, list_append, list_append, hy]; simp [Ur.mk])
        have HQ := Lib.hid hq
        clear hx hy hq
        go_wp2_with fail
        go_meet
        exact ⟨by rw [HQ.out], rfl⟩
    obtain ⟨hs4, hwc⟩ := hcut
    subst hs4
    rw [hwc]
    clear hwc wc c0 c1 c2 c3 c4 c5 c6 c7 f0 f1 f2 f3 f4 f5 f6 f7 l0 HX HY HH
    go_wp2_with (go_at_call 9; refine (HPH.out _ HBZ.out).mono ?_; rintro e w2 ⟨rfl, hb2⟩; have HB2 := Lib.hid (below_then HBZ.out hb2); obtain ⟨c0, c1, c2, c3, c4, c5, c6, c7, f0, f1, f2, f3, f4, f5, f6, f7, l0⟩ := HR1.out.stay hb2; clear hb2)
    all_goals first
      | exact absurd ⟨by assumption, by assumption, by assumption, by assumption, by assumption, by assumption, by assumption, by assumption⟩ HN.out
      | skip
    all_goals
      go_ret2
      refine ⟨rfl, ?_⟩
      have h := HB2.out
      have hz := h.size
      exact (by repeat (first | with_reducible exact Below.refl _ _ | with_reducible assumption | with_reducible refine below_allocT ?_ _ | with_reducible refine Below.drew ?_ | with_reducible refine below_drewT ?_ _ | (with_reducible refine Below.setCell ?_ ?_ _; rotate_left; · first | exact Nat.le_refl _ | omega | (simp <;> omega)) | (with_reducible refine Below.alloc ?_ ?_ _; rotate_left; · first | omega | (simp <;> omega))))
end Go.Proofs.Ytnnhlkbjdfgcaaa
