/- Contracts and lemmas that the claim rests on: TgU. -/
import Derived.Test.YtnpbnlphmngbdaaGreatDoorGTgT
/- The walk of the law TargetWrites. -/
namespace Go.Proofs.YtnpbnlphmngbdaaGreatDoor
open Go.RowKit

set_option maxHeartbeats 6400000 in
theorem writes10_core (k : Int) (S0 : ByteArray) (hk : Int) (N0 : ByteArray) (p : Int) (PA0 QU0 : ByteArray) (ha : Bool) (w : World) (hS : S0.size ≤ maxLen) (hN : N0.size ≤ maxLen) (hPA : PA0.size ≤ maxLen) (hQU : QU0.size ≤ maxLen) (hp : p < 9223372036854775808) (ht : Tx w) :
    Calls Tryz.prog 4 #[tv k S0 hk N0 p PA0 QU0 ha] w fun e w' => e = .returned (.bool true) ∧ Below w.heap.size w w' := by
  have hb0 : ∀ o, Below w.heap.size w (w.alloc o) := fun o => (Below.refl _ _).alloc (Nat.le_refl _) _
  have HB0 := Lib.hid hb0
  have HA := Lib.hid (fun w1 (h : Below w.heap.size w w1) => awake10_any w1 (ht.stay h))
  have F1 := Lib.hid (fun w1 => few10_any S0 w1 hS)
  have F2 := Lib.hid (fun w1 => few10_any PA0 w1 hPA)
  have F3 := Lib.hid (fun w1 => few10_any QU0 w1 hQU)
  have F4 := Lib.hid (fun w1 => few10_any N0 w1 hN)
  have z1 := few10_size S0
  have z2 := few10_size PA0
  have z3 := few10_size QU0
  have z4 := few10_size N0
  generalize few10 S0 = S at *
  generalize few10 PA0 = PA at *
  generalize few10 QU0 = QU at *
  generalize few10 N0 = N at *
  have HT := Lib.hid (fun w1 (h : Below w.heap.size w w1) => TText_any k S hk N p PA QU ha w1 z1 z4 hp z2 z3 (ht.stay h))
  have HU := Lib.hid (fun w1 => RTText_any k S hk N p PA QU ha w1 z1 z4 hp z2 z3)
  have HO := Lib.hid (fun w1 => TOrigin_any k S hk N p PA QU ha w1 (by omega) (by omega))
  have HR := Lib.hid (fun w1 => ROrig_any k S hk N p PA QU ha w1 (by omega) (by omega))
  have HT0 := Lib.hid (tgAt_new w k S0 hk N0 p PA0 QU0 ha)
  generalize (⟨(Tg.og ⟨k, S.data.toList, (hk, N.data.toList, p), PA.data.toList, QU.data.toList, ha⟩).toArray⟩ : ByteArray) = O at *
  obtain ⟨X, e, hX⟩ : ∃ (X : ByteArray) (e : Int), txtV (Tg.txt ⟨k, S.data.toList, (hk, N.data.toList, p), PA.data.toList, QU.data.toList, ha⟩) 20 = .tuple #[.string X, .int .i64 e] := by
    cases Tg.txt ⟨k, S.data.toList, (hk, N.data.toList, p), PA.data.toList, QU.data.toList, ha⟩ with
    | none => exact ⟨_, _, rfl⟩
    | some l => exact ⟨_, _, rfl⟩
  rw [hX] at HT HU
  clear hX hb0 ht hS hN hPA hQU hp z1 z2 z3 z4
  unfold tv at HT HU HO HR ⊢
  go_enter Tryz.func4, Tryz.ntmps4
  go_wp2_with fail
  refine (HA.out _ (HB0.out _)).mono ?_
  rintro e w1 ⟨rfl, hb1⟩
  have HT1 := Lib.hid (HT0.out.below hb1 (by simp))
  have HB1 := Lib.hid ((HB0.out (.cells #[.int .i64 k, .string S0, .int .i64 hk, .string N0, .int .i64 p, .string PA0, .string QU0, .bool ha] 29)).trans (hb1.mono (by simp)))
  clear hb1 HT0 HB0
  obtain ⟨c0, c1, c2, c3, c4, c5, c6, c7, f0, f1, f2, f3, f4, f5, f6, f7, l1⟩ := HT1.out
  go_wp2_with (first | (go_at_call_of 6 S0; refine (F1.out _).mono ?_; rintro e wx ⟨rfl, hwx⟩; rw [hwx]; clear hwx wx) | (go_at_call_of 6 PA0; refine (F2.out _).mono ?_; rintro e wx ⟨rfl, hwx⟩; rw [hwx]; clear hwx wx) | (go_at_call_of 6 QU0; refine (F3.out _).mono ?_; rintro e wx ⟨rfl, hwx⟩; rw [hwx]; clear hwx wx) | (go_at_call_of 6 N0; refine (F4.out _).mono ?_; rintro e wx ⟨rfl, hwx⟩; rw [hwx]; clear hwx wx))
  generalize hW2 : (((w1.setCell ⟨w.heap.size, 1, none⟩ (.string S)).setCell ⟨w.heap.size, 5, none⟩ (.string PA)).setCell ⟨w.heap.size, 6, none⟩ (.string QU)).setCell ⟨w.heap.size, 3, none⟩ (.string N) = W2
  have HT2 := Lib.hid (show TgAt W2 w.heap.size k S hk N p PA QU ha by
    rw [← hW2]
    constructor <;> simp [go_sem, c0, c1, c2, c3, c4, c5, c6, c7, f0, f1, f2, f3, f4, f5, f6, f7, l1])
  have HB2 := Lib.hid (show Below w.heap.size w W2 by
    rw [← hW2]
    exact (((HB1.out.setCell (p := ⟨w.heap.size, 1, none⟩) (Nat.le_refl _) _).setCell (p := ⟨w.heap.size, 5, none⟩) (Nat.le_refl _) _).setCell (p := ⟨w.heap.size, 6, none⟩) (Nat.le_refl _) _).setCell (p := ⟨w.heap.size, 3, none⟩) (Nat.le_refl _) _)
  clear hW2 HT1 HB1 c0 c1 c2 c3 c4 c5 c6 c7 f0 f1 f2 f3 f4 f5 f6 f7 l1 F1 F2 F3 F4 HA
  refine (HT.out _ HB2.out).mono ?_
  rintro e3 w3 ⟨rfl, hb3⟩
  have HT3 := Lib.hid (HT2.out.below hb3 HT2.out.lt)
  have HB3 := Lib.hid (HB2.out.trans (hb3.mono HB2.out.size))
  clear hb3
  obtain ⟨c0, c1, c2, c3, c4, c5, c6, c7, -, -, -, -, -, -, -, -, l1⟩ := HT3.out
  go_wp2_with fail
  refine (HU.out _).mono ?_
  rintro e4 w4 ⟨rfl, hb4⟩
  clear c0 c1 c2 c3 c4 c5 c6 c7 l1
  have HT4 := Lib.hid (HT3.out.below hb4 HT3.out.lt)
  have HB4 := Lib.hid (HB3.out.trans (hb4.mono HB3.out.size))
  clear hb4
  obtain ⟨c0, c1, c2, c3, c4, c5, c6, c7, -, -, -, -, -, -, -, -, l1⟩ := HT4.out
  go_wp2_with fail
  first
    | go_region_with (first | (go_at_call 10; refine (HO.out _).mono ?_; rintro e9 w9 ⟨rfl, hb9⟩; clear c0 c1 c2 c3 c4 c5 c6 c7 l1; have HT9 := Lib.hid (HT4.out.below ((Below.refl w4.heap.size w4).drew.trans (hb9.mono (by simp))) (Nat.lt_of_lt_of_le HT4.out.lt (Nat.le_refl _))); have HB9 := Lib.hid (HB4.out.drew.trans (hb9.mono (by simp; exact HB4.out.size))); obtain ⟨c0, c1, c2, c3, c4, c5, c6, c7, -, -, -, -, -, -, -, -, l1⟩ := HT9.out; clear hb9) | (go_at_call 11; refine (HR.out _).mono ?_; rintro e10 w10 ⟨rfl, hb10⟩; have HB10 := Lib.hid (HB9.out.trans (hb10.mono HB9.out.size)); clear hb10))
    | fail
  all_goals go_wp2_with fail
  all_goals
    go_ret
    exact ⟨rfl, HB10.out⟩
end Go.Proofs.YtnpbnlphmngbdaaGreatDoor
