/- The law FieldBlanks: its walk. -/
import Derived.Test.YtchhjmdbjndckaaDoorFlH
namespace Go.Proofs.YtchhjmdbjndckaaDoor
open Go.RowKit
namespace Fl
/-- Blanks and tabs by turns. -/
def blk (p q : UInt8) (j : Nat) : List UInt8 := (List.range j).map fun i => if i % 2 = 0 then p else q
theorem blk_len (p q : UInt8) (j : Nat) : (blk p q j).length = j := by unfold blk; simp
theorem blk_bl {p q : UInt8} (hp : Cm.bl p = true) (hq : Cm.bl q = true) (j : Nat) : (blk p q j).all Cm.bl = true := by
  unfold blk
  rw [List.all_map, List.all_eq_true]
  intro i _
  show Cm.bl (if i % 2 = 0 then p else q) = true
  split
  · exact hp
  · exact hq
theorem blk_more (p q : UInt8) (j : Nat) : blk p q (j + 1) = blk p q j ++ [if j % 2 = 0 then p else q] := by
  unfold blk
  rw [List.range_succ, List.map_append]; rfl
end Fl
def blkB (p q : UInt8) (j : Nat) : ByteArray := ⟨(Fl.blk p q j).toArray⟩
theorem blkB_size (p q : UInt8) (j : Nat) : (blkB p q j).size = j := by unfold blkB; rw [arrSize, Fl.blk_len]
theorem blkB_even {p q : UInt8} {j : Nat} (h : j % 2 = 0) : blkB p q j ++ ⟨#[p]⟩ = blkB p q (j + 1) := by
  apply bytes_eq
  rw [list_append]
  show Fl.blk p q j ++ [p] = Fl.blk p q (j + 1)
  rw [Fl.blk_more, if_pos h]
theorem blkB_odd {p q : UInt8} {j : Nat} (h : ¬ j % 2 = 0) : blkB p q j ++ ⟨#[q]⟩ = blkB p q (j + 1) := by
  apply bytes_eq
  rw [list_append]
  show Fl.blk p q j ++ [q] = Fl.blk p q (j + 1)
  rw [Fl.blk_more, if_neg h]
set_option maxRecDepth 20000 in
set_option maxHeartbeats 3200000 in
/-- Where the field may be. -/
theorem blanks12_some (n0 v0 N V X Y : ByteArray) (na nb : Int) (ka kb : Nat) (w : World) (hna : na % 9 = (ka : Int)) (hnb : nb % 9 = (kb : Int)) (hka : ka ≤ 8) (hkb : kb ≤ 8) (a0 : 0 ≤ na) (a1 : na ≤ 255) (b0 : 0 ≤ nb) (b1 : nb ≤ 255)
    (hX : blkB 32 9 ka = X) (hY : blkB 9 32 kb = Y) (hx : X.toList.isEmpty = false) (hN : N.size ≤ 300) (hV : V.size ≤ 300) (hXz : X.size ≤ 8) (hYz : Y.size ≤ 8)
    (HW : Hid (∀ w1, Calls Tryd.prog 6 #[] w1 fun e w' => e = .returned (.bool true) ∧ Below w1.heap.size w1 w'))
    (FA : Hid (∀ w1, Calls Tryd.prog 7 #[.string n0] w1 fun e w' => e = .returned (.string N) ∧ w' = w1))
    (FB : Hid (∀ w1, Calls Tryd.prog 7 #[.string v0] w1 fun e w' => e = .returned (.string V) ∧ w' = w1))
    (HC : Hid (∀ w1, Calls Tryd.prog 12 #[.agg #[.string N, .string V]] w1 fun e w' => e = .returned (.int .i64 0) ∧ Below w1.heap.size w1 w'))
    (P1 : Hid (∀ w1, Calls Tryd.prog 8 #[.string (N ++ ⟨#[58]⟩ ++ X ++ V ++ Y)] w1 fun e w' => e = .returned (.tuple #[.agg #[.string N, .string V], .int .i64 0]) ∧ Below w1.heap.size w1 w'))
    (N2 V2 N3 V3 : ByteArray)
    (P2 : Hid (∀ w1, Calls Tryd.prog 8 #[.string (N ++ X ++ ⟨#[58]⟩ ++ V)] w1 fun e w' => e = .returned (.tuple #[.agg #[.string N2, .string V2], .int .i64 22]) ∧ Below w1.heap.size w1 w'))
    (P3 : Hid (∀ w1, Calls Tryd.prog 8 #[.string (X ++ N ++ ⟨#[58]⟩ ++ V)] w1 fun e w' => e = .returned (.tuple #[.agg #[.string N3, .string V3], .int .i64 23]) ∧ Below w1.heap.size w1 w')) :
    Calls Tryd.prog 5 #[.agg #[.string n0, .string v0], .int .u8 na, .int .u8 nb] w fun e w' => e = .returned (.bool true) ∧ Below w.heap.size w w' := by
  have hb0 : ∀ o, Below w.heap.size w (w.alloc o) := fun o => (Below.refl _ _).alloc (Nat.le_refl _) _
  have HB0 := Lib.hid hb0
  have HF0 := Lib.hid (fldAt_new w n0 v0)
  clear hb0
  have HXX := Lib.hid hX
  have HYY := Lib.hid hY
  clear hX hY
  have s32 : (⟨#[32, 9]⟩ : ByteArray).extract 0 1 = ⟨#[32]⟩ := by decide +kernel
  have s09 : (⟨#[32, 9]⟩ : ByteArray).extract 1 2 = ⟨#[9]⟩ := by decide +kernel
  have t09 : (⟨#[9, 32]⟩ : ByteArray).extract 0 1 = ⟨#[9]⟩ := by decide +kernel
  have t32 : (⟨#[9, 32]⟩ : ByteArray).extract 1 2 = ⟨#[32]⟩ := by decide +kernel
  go_enter Tryd.func5, Tryd.ntmps5
  go_wp2_with fail
  refine (HW.out _).mono ?_
  rintro e w1 ⟨rfl, hb1⟩
  have HF1 := Lib.hid (HF0.out.stay hb1)
  have HB1 := Lib.hid (below_then (HB0.out _) hb1)
  clear hb1 HF0
  obtain ⟨c0, c1, f0, f1, l1⟩ := HF1.out
  go_wp2_with (first | (go_at_call_of 7 n0; refine (FA.out _).mono ?_; rintro e wx ⟨rfl, hwx⟩; rw [hwx]; clear hwx wx) | (go_at_call_of 7 v0; refine (FB.out _).mono ?_; rintro e wx ⟨rfl, hwx⟩; rw [hwx]; clear hwx wx))
  generalize hW2 : (w1.setCell ⟨w.heap.size, 0, none⟩ (.string N)).setCell ⟨w.heap.size, 1, none⟩ (.string V) = W2
  have HF2 := Lib.hid (show FldAt W2 w.heap.size N V by
    rw [← hW2]
    constructor <;> simp [go_sem, c0, c1, f0, f1, l1])
  have HB2 := Lib.hid (show Below w.heap.size w W2 by
    rw [← hW2]
    have h := HB1.out
    exact (by repeat (first | with_reducible exact Below.refl _ _ | with_reducible assumption | with_reducible refine below_allocT ?_ _ | with_reducible refine Below.drew ?_ | with_reducible refine below_drewT ?_ _ | (with_reducible refine Below.setCell ?_ ?_ _; rotate_left; · first | exact Nat.le_refl _ | omega | (simp <;> omega)) | (with_reducible refine Below.alloc ?_ ?_ _; rotate_left; · first | omega | (simp <;> omega)))))
  clear hW2 HF1 HB1 c0 c1 f0 f1 l1 FA FB HW
  refine (HC.out _).mono ?_
  rintro e w3 ⟨rfl, hb3⟩
  have HF3 := Lib.hid (HF2.out.stay hb3)
  have HB3 := Lib.hid (below_then HB2.out hb3)
  clear hb3 HF2 HB2
  obtain ⟨c0, c1, f0, f1, l1⟩ := HF3.out
  go_wp2_with fail
  go_loopw [7, 9] (fun x i wr => ∃ j : Nat, j ≤ ka ∧ x = .string (blkB 32 9 j) ∧ i = .int .i64 j ∧ wr = w3) (fun _ i _ => ka - (intOf i).toNat)
  case atStart => exact ⟨0, Nat.zero_le _, rfl, rfl, rfl⟩
  case round =>
    obtain ⟨j, hj, rfl, rfl, hwr⟩ := hrel
    rw [hwr]
    have hbz := blkB_size 32 9 j
    by_cases hlt : j < ka
    · rcases Nat.mod_two_eq_zero_or_one j with hm | hm
      · have hm2 : (j : Int) % 2 = 0 := by omega
        have hst := Lib.hid (blkB_even (p := 32) (q := 9) hm)
        generalize hbj : blkB 32 9 j = bj at *
        go_wp2_with fail
        go_roundw
        case rel => exact ⟨j + 1, by omega, by rw [hst.out], by go_num, by trivial⟩
        case measure => simp [intOf]; omega
      · have hm2 : (j : Int) % 2 = 1 := by omega
        have hst := Lib.hid (blkB_odd (p := 32) (q := 9) (j := j) (by omega))
        generalize hbj : blkB 32 9 j = bj at *
        go_wp2_with fail
        go_roundw
        case rel => exact ⟨j + 1, by omega, by rw [hst.out], by go_num, by trivial⟩
        case measure => simp [intOf]; omega
    · obtain rfl : j = ka := by omega
      rw [HXX.out] at *
      clear hwr hlt hj
      go_wp2_with fail
      go_loopw [8, 10] (fun x i wr => ∃ l : Nat, l ≤ kb ∧ x = .string (blkB 9 32 l) ∧ i = .int .i64 l ∧ wr = w3) (fun _ i _ => kb - (intOf i).toNat)
      case atStart => exact ⟨0, Nat.zero_le _, rfl, rfl, rfl⟩
      case round =>
        obtain ⟨l, hl, rfl, rfl, hwr⟩ := hrel
        rw [hwr]
        have hbz2 := blkB_size 9 32 l
        by_cases hlt : l < kb
        · rcases Nat.mod_two_eq_zero_or_one l with hm | hm
          · have hm2 : (l : Int) % 2 = 0 := by omega
            have hst := Lib.hid (blkB_even (p := 9) (q := 32) hm)
            generalize hbj : blkB 9 32 l = bj at *
            go_wp2_with fail
            go_roundw
            case rel => exact ⟨l + 1, by omega, by rw [hst.out], by go_num, by trivial⟩
            case measure => simp [intOf]; omega
          · have hm2 : (l : Int) % 2 = 1 := by omega
            have hst := Lib.hid (blkB_odd (p := 9) (q := 32) (j := l) (by omega))
            generalize hbj : blkB 9 32 l = bj at *
            go_wp2_with fail
            go_roundw
            case rel => exact ⟨l + 1, by omega, by rw [hst.out], by go_num, by trivial⟩
            case measure => simp [intOf]; omega
        · obtain rfl : l = kb := by omega
          rw [HYY.out] at *
          clear hwr hlt hl
          go_wp2_with fail
          clear c0 c1 f0 f1 l1
          refine (P1.out _).mono ?_
          rintro e w4 ⟨rfl, hb4⟩
          have HF4 := Lib.hid (HF3.out.stay hb4)
          have HB4 := Lib.hid (below_then HB3.out hb4)
          clear hb4 HB3 HF3
          obtain ⟨c0, c1, f0, f1, l1⟩ := HF4.out
          go_wp2_with fail
          clear c0 c1 f0 f1 l1
          refine (P2.out _).mono ?_
          rintro e w5 ⟨rfl, hb5⟩
          have HF5 := Lib.hid (HF4.out.later hb5)
          have HG5 := Lib.hid ((fldAt_new w4 N V).stay hb5)
          have HB5 := Lib.hid (below_then (w := w) (by have h := HB4.out; have hz := h.size; exact (by repeat (first | with_reducible exact Below.refl _ _ | with_reducible assumption | with_reducible refine below_allocT ?_ _ | with_reducible refine Below.drew ?_ | with_reducible refine below_drewT ?_ _ | (with_reducible refine Below.setCell ?_ ?_ _; rotate_left; · first | exact Nat.le_refl _ | omega | (simp <;> omega)) | (with_reducible refine Below.alloc ?_ ?_ _; rotate_left; · first | omega | (simp <;> omega))))) hb5)
          clear hb5 HB4 HF4
          obtain ⟨c0, c1, f0, f1, l1⟩ := HF5.out
          go_wp2_with fail
          clear c0 c1 f0 f1 l1
          refine (P3.out _).mono ?_
          rintro e w6 ⟨rfl, hb6⟩
          have HB6 := Lib.hid (below_then (w := w) (by have h := HB5.out; have hz := h.size; exact (by repeat (first | with_reducible exact Below.refl _ _ | with_reducible assumption | with_reducible refine below_allocT ?_ _ | with_reducible refine Below.drew ?_ | with_reducible refine below_drewT ?_ _ | (with_reducible refine Below.setCell ?_ ?_ _; rotate_left; · first | exact Nat.le_refl _ | omega | (simp <;> omega)) | (with_reducible refine Below.alloc ?_ ?_ _; rotate_left; · first | omega | (simp <;> omega))))) hb6)
          obtain ⟨c0, c1, f0, f1, l1⟩ := HF5.out.later hb6
          obtain ⟨d0, d1, g0, g1, m1⟩ := HG5.out.later hb6
          clear hb6
          go_wp2_with fail
          go_ret
          refine ⟨rfl, ?_⟩
          have h := HB6.out
          have hz := h.size
          exact (by repeat (first | with_reducible exact Below.refl _ _ | with_reducible assumption | with_reducible refine below_allocT ?_ _ | with_reducible refine Below.drew ?_ | with_reducible refine below_drewT ?_ _ | (with_reducible refine Below.setCell ?_ ?_ _; rotate_left; · first | exact Nat.le_refl _ | omega | (simp <;> omega)) | (with_reducible refine Below.alloc ?_ ?_ _; rotate_left; · first | omega | (simp <;> omega))))
set_option maxRecDepth 20000 in
set_option maxHeartbeats 3200000 in
/-- Where it may be, and no blank is put. -/
theorem blanks12_none (n0 v0 N V X Y : ByteArray) (na nb : Int) (ka kb : Nat) (w : World) (hna : na % 9 = (ka : Int)) (hnb : nb % 9 = (kb : Int)) (hka : ka ≤ 8) (hkb : kb ≤ 8) (a0 : 0 ≤ na) (a1 : na ≤ 255) (b0 : 0 ≤ nb) (b1 : nb ≤ 255)
    (hX : blkB 32 9 ka = X) (hY : blkB 9 32 kb = Y) (hx : X.toList.isEmpty = true) (hN : N.size ≤ 300) (hV : V.size ≤ 300) (hXz : X.size ≤ 8) (hYz : Y.size ≤ 8)
    (HW : Hid (∀ w1, Calls Tryd.prog 6 #[] w1 fun e w' => e = .returned (.bool true) ∧ Below w1.heap.size w1 w'))
    (FA : Hid (∀ w1, Calls Tryd.prog 7 #[.string n0] w1 fun e w' => e = .returned (.string N) ∧ w' = w1))
    (FB : Hid (∀ w1, Calls Tryd.prog 7 #[.string v0] w1 fun e w' => e = .returned (.string V) ∧ w' = w1))
    (HC : Hid (∀ w1, Calls Tryd.prog 12 #[.agg #[.string N, .string V]] w1 fun e w' => e = .returned (.int .i64 0) ∧ Below w1.heap.size w1 w'))
    (P1 : Hid (∀ w1, Calls Tryd.prog 8 #[.string (N ++ ⟨#[58]⟩ ++ X ++ V ++ Y)] w1 fun e w' => e = .returned (.tuple #[.agg #[.string N, .string V], .int .i64 0]) ∧ Below w1.heap.size w1 w'))
    (N2 V2 N3 V3 : ByteArray)
    (P2 : Hid (∀ w1, Calls Tryd.prog 8 #[.string (N ++ X ++ ⟨#[58]⟩ ++ V)] w1 fun e w' => e = .returned (.tuple #[.agg #[.string N2, .string V2], .int .i64 0]) ∧ Below w1.heap.size w1 w'))
    (P3 : Hid (∀ w1, Calls Tryd.prog 8 #[.string (X ++ N ++ ⟨#[58]⟩ ++ V)] w1 fun e w' => e = .returned (.tuple #[.agg #[.string N3, .string V3], .int .i64 0]) ∧ Below w1.heap.size w1 w')) :
    Calls Tryd.prog 5 #[.agg #[.string n0, .string v0], .int .u8 na, .int .u8 nb] w fun e w' => e = .returned (.bool true) ∧ Below w.heap.size w w' := by
  have hb0 : ∀ o, Below w.heap.size w (w.alloc o) := fun o => (Below.refl _ _).alloc (Nat.le_refl _) _
  have HB0 := Lib.hid hb0
  have HF0 := Lib.hid (fldAt_new w n0 v0)
  clear hb0
  have HXX := Lib.hid hX
  have HYY := Lib.hid hY
  clear hX hY
  have s32 : (⟨#[32, 9]⟩ : ByteArray).extract 0 1 = ⟨#[32]⟩ := by decide +kernel
  have s09 : (⟨#[32, 9]⟩ : ByteArray).extract 1 2 = ⟨#[9]⟩ := by decide +kernel
  have t09 : (⟨#[9, 32]⟩ : ByteArray).extract 0 1 = ⟨#[9]⟩ := by decide +kernel
  have t32 : (⟨#[9, 32]⟩ : ByteArray).extract 1 2 = ⟨#[32]⟩ := by decide +kernel
  go_enter Tryd.func5, Tryd.ntmps5
  go_wp2_with fail
  refine (HW.out _).mono ?_
  rintro e w1 ⟨rfl, hb1⟩
  have HF1 := Lib.hid (HF0.out.stay hb1)
  have HB1 := Lib.hid (below_then (HB0.out _) hb1)
  clear hb1 HF0
  obtain ⟨c0, c1, f0, f1, l1⟩ := HF1.out
  go_wp2_with (first | (go_at_call_of 7 n0; refine (FA.out _).mono ?_; rintro e wx ⟨rfl, hwx⟩; rw [hwx]; clear hwx wx) | (go_at_call_of 7 v0; refine (FB.out _).mono ?_; rintro e wx ⟨rfl, hwx⟩; rw [hwx]; clear hwx wx))
  generalize hW2 : (w1.setCell ⟨w.heap.size, 0, none⟩ (.string N)).setCell ⟨w.heap.size, 1, none⟩ (.string V) = W2
  have HF2 := Lib.hid (show FldAt W2 w.heap.size N V by
    rw [← hW2]
    constructor <;> simp [go_sem, c0, c1, f0, f1, l1])
  have HB2 := Lib.hid (show Below w.heap.size w W2 by
    rw [← hW2]
    have h := HB1.out
    exact (by repeat (first | with_reducible exact Below.refl _ _ | with_reducible assumption | with_reducible refine below_allocT ?_ _ | with_reducible refine Below.drew ?_ | with_reducible refine below_drewT ?_ _ | (with_reducible refine Below.setCell ?_ ?_ _; rotate_left; · first | exact Nat.le_refl _ | omega | (simp <;> omega)) | (with_reducible refine Below.alloc ?_ ?_ _; rotate_left; · first | omega | (simp <;> omega)))))
  clear hW2 HF1 HB1 c0 c1 f0 f1 l1 FA FB HW
  refine (HC.out _).mono ?_
  rintro e w3 ⟨rfl, hb3⟩
  have HF3 := Lib.hid (HF2.out.stay hb3)
  have HB3 := Lib.hid (below_then HB2.out hb3)
  clear hb3 HF2 HB2
  obtain ⟨c0, c1, f0, f1, l1⟩ := HF3.out
  go_wp2_with fail
  go_loopw [7, 9] (fun x i wr => ∃ j : Nat, j ≤ ka ∧ x = .string (blkB 32 9 j) ∧ i = .int .i64 j ∧ wr = w3) (fun _ i _ => ka - (intOf i).toNat)
  case atStart => exact ⟨0, Nat.zero_le _, rfl, rfl, rfl⟩
  case round =>
    obtain ⟨j, hj, rfl, rfl, hwr⟩ := hrel
    rw [hwr]
    have hbz := blkB_size 32 9 j
    by_cases hlt : j < ka
    · rcases Nat.mod_two_eq_zero_or_one j with hm | hm
      · have hm2 : (j : Int) % 2 = 0 := by omega
        have hst := Lib.hid (blkB_even (p := 32) (q := 9) hm)
        generalize hbj : blkB 32 9 j = bj at *
        go_wp2_with fail
        go_roundw
        case rel => exact ⟨j + 1, by omega, by rw [hst.out], by go_num, by trivial⟩
        case measure => simp [intOf]; omega
      · have hm2 : (j : Int) % 2 = 1 := by omega
        have hst := Lib.hid (blkB_odd (p := 32) (q := 9) (j := j) (by omega))
        generalize hbj : blkB 32 9 j = bj at *
        go_wp2_with fail
        go_roundw
        case rel => exact ⟨j + 1, by omega, by rw [hst.out], by go_num, by trivial⟩
        case measure => simp [intOf]; omega
    · obtain rfl : j = ka := by omega
      rw [HXX.out] at *
      clear hwr hlt hj
      go_wp2_with fail
      go_loopw [8, 10] (fun x i wr => ∃ l : Nat, l ≤ kb ∧ x = .string (blkB 9 32 l) ∧ i = .int .i64 l ∧ wr = w3) (fun _ i _ => kb - (intOf i).toNat)
      case atStart => exact ⟨0, Nat.zero_le _, rfl, rfl, rfl⟩
      case round =>
        obtain ⟨l, hl, rfl, rfl, hwr⟩ := hrel
        rw [hwr]
        have hbz2 := blkB_size 9 32 l
        by_cases hlt : l < kb
        · rcases Nat.mod_two_eq_zero_or_one l with hm | hm
          · have hm2 : (l : Int) % 2 = 0 := by omega
            have hst := Lib.hid (blkB_even (p := 9) (q := 32) hm)
            generalize hbj : blkB 9 32 l = bj at *
            go_wp2_with fail
            go_roundw
            case rel => exact ⟨l + 1, by omega, by rw [hst.out], by go_num, by trivial⟩
            case measure => simp [intOf]; omega
          · have hm2 : (l : Int) % 2 = 1 := by omega
            have hst := Lib.hid (blkB_odd (p := 9) (q := 32) (j := l) (by omega))
            generalize hbj : blkB 9 32 l = bj at *
            go_wp2_with fail
            go_roundw
            case rel => exact ⟨l + 1, by omega, by rw [hst.out], by go_num, by trivial⟩
            case measure => simp [intOf]; omega
        · obtain rfl : l = kb := by omega
          rw [HYY.out] at *
          clear hwr hlt hl
          go_wp2_with fail
          clear c0 c1 f0 f1 l1
          refine (P1.out _).mono ?_
          rintro e w4 ⟨rfl, hb4⟩
          have HF4 := Lib.hid (HF3.out.stay hb4)
          have HB4 := Lib.hid (below_then HB3.out hb4)
          clear hb4 HB3 HF3
          obtain ⟨c0, c1, f0, f1, l1⟩ := HF4.out
          go_wp2_with fail
          clear c0 c1 f0 f1 l1
          refine (P2.out _).mono ?_
          rintro e w5 ⟨rfl, hb5⟩
          have HF5 := Lib.hid (HF4.out.later hb5)
          have HG5 := Lib.hid ((fldAt_new w4 N V).stay hb5)
          have HB5 := Lib.hid (below_then (w := w) (by have h := HB4.out; have hz := h.size; exact (by repeat (first | with_reducible exact Below.refl _ _ | with_reducible assumption | with_reducible refine below_allocT ?_ _ | with_reducible refine Below.drew ?_ | with_reducible refine below_drewT ?_ _ | (with_reducible refine Below.setCell ?_ ?_ _; rotate_left; · first | exact Nat.le_refl _ | omega | (simp <;> omega)) | (with_reducible refine Below.alloc ?_ ?_ _; rotate_left; · first | omega | (simp <;> omega))))) hb5)
          clear hb5 HB4 HF4
          obtain ⟨c0, c1, f0, f1, l1⟩ := HF5.out
          go_wp2_with fail
          clear c0 c1 f0 f1 l1
          refine (P3.out _).mono ?_
          rintro e w6 ⟨rfl, hb6⟩
          have HB6 := Lib.hid (below_then (w := w) (by have h := HB5.out; have hz := h.size; exact (by repeat (first | with_reducible exact Below.refl _ _ | with_reducible assumption | with_reducible refine below_allocT ?_ _ | with_reducible refine Below.drew ?_ | with_reducible refine below_drewT ?_ _ | (with_reducible refine Below.setCell ?_ ?_ _; rotate_left; · first | exact Nat.le_refl _ | omega | (simp <;> omega)) | (with_reducible refine Below.alloc ?_ ?_ _; rotate_left; · first | omega | (simp <;> omega))))) hb6)
          obtain ⟨c0, c1, f0, f1, l1⟩ := HF5.out.later hb6
          obtain ⟨d0, d1, g0, g1, m1⟩ := HG5.out.later hb6
          clear hb6
          go_wp2_with fail
          go_ret
          refine ⟨rfl, ?_⟩
          have h := HB6.out
          have hz := h.size
          exact (by repeat (first | with_reducible exact Below.refl _ _ | with_reducible assumption | with_reducible refine below_allocT ?_ _ | with_reducible refine Below.drew ?_ | with_reducible refine below_drewT ?_ _ | (with_reducible refine Below.setCell ?_ ?_ _; rotate_left; · first | exact Nat.le_refl _ | omega | (simp <;> omega)) | (with_reducible refine Below.alloc ?_ ?_ _; rotate_left; · first | omega | (simp <;> omega))))
set_option maxRecDepth 20000 in
set_option maxHeartbeats 3200000 in
/-- Where it may not. -/
theorem blanks12_bad (n0 v0 N V : ByteArray) (na nb k : Int) (w : World) (hk : ¬ k = 0)
    (HW : Hid (∀ w1, Calls Tryd.prog 6 #[] w1 fun e w' => e = .returned (.bool true) ∧ Below w1.heap.size w1 w'))
    (FA : Hid (∀ w1, Calls Tryd.prog 7 #[.string n0] w1 fun e w' => e = .returned (.string N) ∧ w' = w1))
    (FB : Hid (∀ w1, Calls Tryd.prog 7 #[.string v0] w1 fun e w' => e = .returned (.string V) ∧ w' = w1))
    (HC : Hid (∀ w1, Calls Tryd.prog 12 #[.agg #[.string N, .string V]] w1 fun e w' => e = .returned (.int .i64 k) ∧ Below w1.heap.size w1 w'))
    (HR : Hid (∀ w1, Calls Tryd.prog 11 #[.agg #[.string N, .string V]] w1 fun e w' => e = .returned (.int .i64 k) ∧ Below w1.heap.size w1 w')) :
    Calls Tryd.prog 5 #[.agg #[.string n0, .string v0], .int .u8 na, .int .u8 nb] w fun e w' => e = .returned (.bool true) ∧ Below w.heap.size w w' := by
  have hb0 : ∀ o, Below w.heap.size w (w.alloc o) := fun o => (Below.refl _ _).alloc (Nat.le_refl _) _
  have HB0 := Lib.hid hb0
  have HF0 := Lib.hid (fldAt_new w n0 v0)
  clear hb0
  go_enter Tryd.func5, Tryd.ntmps5
  go_wp2_with fail
  refine (HW.out _).mono ?_
  rintro e w1 ⟨rfl, hb1⟩
  have HF1 := Lib.hid (HF0.out.stay hb1)
  have HB1 := Lib.hid (below_then (HB0.out _) hb1)
  clear hb1 HF0
  obtain ⟨c0, c1, f0, f1, l1⟩ := HF1.out
  go_wp2_with (first | (go_at_call_of 7 n0; refine (FA.out _).mono ?_; rintro e wx ⟨rfl, hwx⟩; rw [hwx]; clear hwx wx) | (go_at_call_of 7 v0; refine (FB.out _).mono ?_; rintro e wx ⟨rfl, hwx⟩; rw [hwx]; clear hwx wx))
  generalize hW2 : (w1.setCell ⟨w.heap.size, 0, none⟩ (.string N)).setCell ⟨w.heap.size, 1, none⟩ (.string V) = W2
  have HF2 := Lib.hid (show FldAt W2 w.heap.size N V by
    rw [← hW2]
    constructor <;> simp [go_sem, c0, c1, f0, f1, l1])
  have HB2 := Lib.hid (show Below w.heap.size w W2 by
    rw [← hW2]
    have h := HB1.out
    exact (by repeat (first | with_reducible exact Below.refl _ _ | with_reducible assumption | with_reducible refine below_allocT ?_ _ | with_reducible refine Below.drew ?_ | with_reducible refine below_drewT ?_ _ | (with_reducible refine Below.setCell ?_ ?_ _; rotate_left; · first | exact Nat.le_refl _ | omega | (simp <;> omega)) | (with_reducible refine Below.alloc ?_ ?_ _; rotate_left; · first | omega | (simp <;> omega)))))
  clear hW2 HF1 HB1 c0 c1 f0 f1 l1 FA FB HW
  refine (HC.out _).mono ?_
  rintro e w3 ⟨rfl, hb3⟩
  have HF3 := Lib.hid (HF2.out.stay hb3)
  have HB3 := Lib.hid (below_then HB2.out hb3)
  clear hb3 HF2 HB2
  obtain ⟨c0, c1, f0, f1, l1⟩ := HF3.out
  go_wp2_with fail
  all_goals first | exact absurd (by assumption) hk | skip
  clear c0 c1 f0 f1 l1
  refine (HR.out _).mono ?_
  rintro e w4 ⟨rfl, hb4⟩
  have HB4 := Lib.hid (below_then HB3.out hb4)
  clear hb4
  go_wp2_with fail
  all_goals first | exact absurd (by assumption) hk | skip
  go_ret
  exact ⟨rfl, HB4.out⟩
theorem form_list (N X V Y : ByteArray) : (N ++ ⟨#[58]⟩ ++ X ++ V ++ Y).data.toList = N.data.toList ++ 58 :: (X.data.toList ++ (V.data.toList ++ Y.data.toList)) := by
  rw [list_append, list_append, list_append, list_append, List.append_assoc, List.append_assoc, List.append_assoc]; rfl
theorem space_list (N X V : ByteArray) : (N ++ X ++ ⟨#[58]⟩ ++ V).data.toList = N.data.toList ++ (X.data.toList ++ 58 :: V.data.toList) := by
  rw [list_append, list_append, list_append, List.append_assoc, List.append_assoc]; rfl
theorem fV_val {x : List UInt8 × List UInt8 × Int} {k : Int} (h : x.2.2 = k) : fV x = .tuple #[.agg #[.string ⟨x.1.toArray⟩, .string ⟨x.2.1.toArray⟩], .int .i64 k] := by rw [fV_eq, h]
theorem blkB_list (p q : UInt8) (j : Nat) : (blkB p q j).data.toList = Fl.blk p q j := rfl
theorem blanks12_core (n0 v0 : ByteArray) (na nb : Int) (w : World) (hn : n0.size ≤ maxLen) (hv : v0.size ≤ maxLen) (a0 : 0 ≤ na) (a1 : na ≤ 255) (b0 : 0 ≤ nb) (b1 : nb ≤ 255) :
    Calls Tryd.prog 5 #[.agg #[.string n0, .string v0], .int .u8 na, .int .u8 nb] w fun e w' => e = .returned (.bool true) ∧ Below w.heap.size w w' := by
  have hnz := few12_size n0
  have hvz := few12_size v0
  have FA := Lib.hid (fun w1 => few12_any n0 w1 hn)
  have FB := Lib.hid (fun w1 => few12_any v0 w1 hv)
  generalize few12 n0 = N at *
  generalize few12 v0 = V at *
  have HR := Lib.hid (fun w1 => RFCheck_any N V w1 (by omega) (by omega))
  have HC := Lib.hid (fun w1 => FCheck_any N V w1 (by omega) (by omega))
  rw [fF_eq] at HR HC
  by_cases hk : Fl.checkL N.data.toList V.data.toList = 0
  · rw [hk] at HC
    obtain ⟨h0, h1, h2, h3⟩ := Fl.check_ok hk
    obtain ⟨ka, hka⟩ : ∃ ka : Nat, na % 9 = (ka : Int) := ⟨(na % 9).toNat, by omega⟩
    obtain ⟨kb, hkb⟩ : ∃ kb : Nat, nb % 9 = (kb : Int) := ⟨(nb % 9).toNat, by omega⟩
    have hXz := blkB_size 32 9 ka
    have hYz := blkB_size 9 32 kb
    have hXb : (blkB 32 9 ka).data.toList.all Cm.bl = true := by rw [blkB_list]; exact Fl.blk_bl (by decide) (by decide) ka
    have hYb : (blkB 9 32 kb).data.toList.all Cm.bl = true := by rw [blkB_list]; exact Fl.blk_bl (by decide) (by decide) kb
    obtain ⟨X, hX⟩ : ∃ X, blkB 32 9 ka = X := ⟨_, rfl⟩
    obtain ⟨Y, hY⟩ : ∃ Y, blkB 9 32 kb = Y := ⟨_, rfl⟩
    rw [hX] at hXz hXb
    rw [hY] at hYz hYb
    have z58 : (⟨#[58]⟩ : ByteArray).size = 1 := rfl
    have P1 := Lib.hid (fun w1 => FParse_any (N ++ ⟨#[58]⟩ ++ X ++ V ++ Y) w1 (by simp only [ByteArray.size_append]; omega))
    rw [form_list, fV_of (Fl.parse_form h0 h1 hXb hYb h2 h3), arr_same, arr_same] at P1
    have P2 := Lib.hid (fun w1 => FParse_any (N ++ X ++ ⟨#[58]⟩ ++ V) w1 (by simp only [ByteArray.size_append]; omega))
    have P3 := Lib.hid (fun w1 => FParse_any (X ++ N ++ ⟨#[58]⟩ ++ V) w1 (by simp only [ByteArray.size_append]; omega))
    rw [space_list] at P2
    rw [show (X ++ N ++ ⟨#[58]⟩ ++ V).data.toList = X.data.toList ++ (N.data.toList ++ 58 :: V.data.toList) from space_list X N V] at P3
    cases hx : X.toList.isEmpty
    · have hx0 : X.data.toList ≠ [] := by rw [ByteArray.toList_eq] at hx; simpa using hx
      rw [fV_val (Fl.parse_space h0 h1 hXb hx0 h2)] at P2
      rw [fV_val (Fl.parse_fold h1 hXb hx0 h2)] at P3
      exact blanks12_some n0 v0 N V X Y na nb ka kb w hka hkb (by omega) (by omega) a0 a1 b0 b1 hX hY hx (by omega) (by omega) (by omega) (by omega) (Lib.hid awake12_any) FA FB HC P1 _ _ _ _ P2 P3
    · have hx0 : X.data.toList = [] := by rw [ByteArray.toList_eq] at hx; simpa using hx
      have hf := Fl.parse_form (x := []) (y := []) h0 h1 rfl rfl h2 h3
      rw [List.append_nil, List.nil_append] at hf
      rw [hx0, List.nil_append, fV_of hf] at P2 P3
      exact blanks12_none n0 v0 N V X Y na nb ka kb w hka hkb (by omega) (by omega) a0 a1 b0 b1 hX hY hx (by omega) (by omega) (by omega) (by omega) (Lib.hid awake12_any) FA FB HC P1 _ _ _ _ P2 P3
  · exact blanks12_bad n0 v0 N V na nb _ w hk (Lib.hid awake12_any) FA FB HC HR
end Go.Proofs.YtchhjmdbjndckaaDoor
