/- The page's examples, and the walks of the laws NumeralReads and NumeralTexts. -/
import Derived.Test.YtcieocendgedaaaDoorNumH
namespace Go.Proofs.YtcieocendgedaaaDoor
open Go.RowKit

theorem drewB (B : Nat) (w : World) (n : Nat) : Below B w (w.drewN n) := ⟨rfl, rfl, rfl, Nat.le_refl _, fun _ _ => rfl⟩
set_option maxHeartbeats 400000 in
theorem awake3_any (w : World) (ht : Tabs w) : Calls Tryd.prog 6 #[] w fun e w' => e = .returned (.bool true) ∧ Below w.heap.size w w' := by
  have e1 : Nu.rd 10 9 (⟨#[48, 48, 55]⟩ : ByteArray).data.toList = (7, 0) := by decide +kernel
  have e2 : Nu.rd 10 9 (⟨#[49, 48]⟩ : ByteArray).data.toList = (0, 7) := by decide +kernel
  have e3 : Nu.rd 10 9 (⟨#[43, 49]⟩ : ByteArray).data.toList = (0, 2) := by decide +kernel
  have e4 : Nu.tx 16 255 = ⟨#[102, 102]⟩ := by
    have h : Nu.tx 16 255 = Nu.text 16 255 := rfl
    rw [h, text_big (by omega) (by omega), text_small (by omega)]
    decide +kernel
  have H1 := Lib.hid e1
  have H2 := Lib.hid e2
  have H3 := Lib.hid e3
  have H4 := Lib.hid e4
  clear e1 e2 e3 e4
  go_enter Tryd.func6, Tryd.ntmps6
  go_wp2_with fail
  refine (Decimal_any 9 (by omega) (by omega) _ _ (by decide)).mono ?_
  rintro e w1 ⟨rfl, hb1⟩
  rw [H1.out]
  go_wp2_with fail
  refine (Decimal_any 9 (by omega) (by omega) _ _ (by decide)).mono ?_
  rintro e w2 ⟨rfl, hb2⟩
  rw [H2.out]
  go_wp2_with fail
  refine (Decimal_any 9 (by omega) (by omega) _ _ (by decide)).mono ?_
  rintro e w3 ⟨rfl, hb3⟩
  rw [H3.out]
  have hb4 := (hb1.trans (hb2.mono hb1.size)).trans (hb3.mono (Nat.le_trans hb1.size hb2.size))
  go_wp2_with fail
  refine (HexText_any 255 (by omega) _ (ht.stay hb4)).mono ?_
  rintro e w4 ⟨rfl, hb5⟩
  rw [H4.out]
  go_wp2_with fail
  go_ret
  exact ⟨rfl, hb4.trans (hb5.mono hb4.size)⟩

set_option maxHeartbeats 800000 in
theorem reads_core (s : ByteArray) (most : Int) (h0 : -9223372036854775808 ≤ most) (h1 : most < 9223372036854775808) (w : World) (hs : s.size ≤ maxLen) (ht : Tabs w) :
    Calls Tryd.prog 3 #[.string s, .int .i64 most] w fun e w' => e = .returned (.bool true) ∧ Below w.heap.size w w' := by
  unfold maxLen at hs
  have hA := Lib.hid (awake3_any w ht)
  obtain ⟨t, hc⟩ : ∃ t, s.extract 0 (min (s.size : Int) 200).toNat = t := ⟨_, rfl⟩
  have hz : t.size ≤ 200 := by rw [← hc]; simp [ByteArray.size_extract]; omega
  have hD := Lib.hid (fun w => Decimal_any most h0 h1 t w (by omega))
  have hX := Lib.hid (fun w => Hex_any most h0 h1 t w (by omega))
  have hR := fun w => RRead_any 10 (by omega) (by omega) most h1 t w (by omega)
  have hS := fun w => RRead_any 16 (by omega) (by omega) most h1 t w (by omega)
  rw [show ((10 : Nat) : Int) = 10 from rfl] at hR
  rw [show ((16 : Nat) : Int) = 16 from rfl] at hS
  have HR := Lib.hid hR
  have HS := Lib.hid hS
  clear hR hS h0 h1 ht
  generalize Nu.rd 10 most t.data.toList = r at *
  generalize Nu.rd 16 most t.data.toList = q at *
  go_enter Tryd.func3, Tryd.ntmps3
  go_wp2_with fail
  refine hA.out.mono ?_
  rintro e w1 ⟨rfl, hb1⟩
  go_wp2_with fail
  refine (hD.out _).mono ?_
  rintro e w2 ⟨rfl, hb2⟩
  go_wp2_with fail
  refine (HR.out _).mono ?_
  rintro e w3 ⟨rfl, m, rfl⟩
  go_wp2_with fail
  refine (hX.out _).mono ?_
  rintro e w4 ⟨rfl, hb4⟩
  go_wp2_with fail
  refine (HS.out _).mono ?_
  rintro e w5 ⟨rfl, m2, rfl⟩
  go_wp2_with fail
  go_ret
  have hb12 := hb1.trans (hb2.mono hb1.size)
  exact ⟨rfl, ((hb12.trans (drewB _ _ _)).trans (hb4.mono hb12.size)).trans (drewB _ _ _)⟩

namespace Nu
theorem tx_size (b : Nat) (hb : 2 ≤ b) (n : Int) (h : n < 9223372036854775808) : (tx b n).size ≤ 64 := by
  unfold tx
  split
  · exact Nat.zero_le _
  · exact text_size b hb _ (by omega)
theorem rd_tx (b : Nat) (hb : 2 ≤ b) (hb' : b ≤ 16) (n most : Int) : rd b most (tx b n).data.toList = if n < 0 then (0, 2) else if most < n then (0, 7) else (n, 0) := by
  unfold tx
  by_cases h : n < 0
  · rw [if_pos h, if_pos h]; rfl
  · rw [if_neg h, if_neg h]
    obtain ⟨k, rfl⟩ := Int.eq_ofNat_of_zero_le (by omega : 0 ≤ n)
    rw [text_list]
    unfold rd
    have e1 : (textL b (k : Int).toNat).isEmpty = false := by
      have := textL_ne b hb (k : Int).toNat
      simpa using this
    rw [e1, textL_isD b hb hb', textL_val b hb hb', if_neg (by simp)]
    simp
end Nu
set_option maxHeartbeats 800000 in
theorem texts_core (n most : Int) (hn : n < 9223372036854775808) (h0 : -9223372036854775808 ≤ most) (h1 : most < 9223372036854775808) (w : World) (ht : Tabs w) :
    Calls Tryd.prog 4 #[.int .i64 n, .int .i64 most] w fun e w' => e = .returned (.bool true) ∧ Below w.heap.size w w' := by
  have hA := Lib.hid (awake3_any w ht)
  have hT := Lib.hid (fun w' (h : Below w.heap.size w w') => Text_any n hn w' (ht.stay h))
  have hX := Lib.hid (fun w' (h : Below w.heap.size w w') => HexText_any n hn w' (ht.stay h))
  have hR := fun w => RText_any 10 (by omega) (by omega) n hn w
  have hS := fun w => RText_any 16 (by omega) (by omega) n hn w
  rw [show ((10 : Nat) : Int) = 10 from rfl] at hR
  rw [show ((16 : Nat) : Int) = 16 from rfl] at hS
  have HR := Lib.hid hR
  have HS := Lib.hid hS
  have hD := fun w => Decimal_any most h0 h1 (Nu.tx 10 n) w (by have := Nu.tx_size 10 (by omega) n hn; omega)
  have hH := fun w => Hex_any most h0 h1 (Nu.tx 16 n) w (by have := Nu.tx_size 16 (by omega) n hn; omega)
  rw [Nu.rd_tx 10 (by omega) (by omega) n most] at hD
  rw [Nu.rd_tx 16 (by omega) (by omega) n most] at hH
  have HD := Lib.hid hD
  have HH := Lib.hid hH
  clear hR hS hD hH hn h0 h1 ht
  generalize Nu.tx 10 n = x at *
  generalize Nu.tx 16 n = y at *
  by_cases hn0 : n < 0
  · rw [if_pos hn0] at HD HH
    go_enter Tryd.func4, Tryd.ntmps4
    go_wp2_with fail
    refine hA.out.mono ?_
    rintro e w1 ⟨rfl, hb1⟩
    go_wp2_with fail
    refine (hT.out _ hb1).mono ?_
    rintro e w2 ⟨rfl, hb2⟩
    have hb2 := hb1.trans (hb2.mono hb1.size)
    go_wp2_with fail
    refine (hX.out _ hb2).mono ?_
    rintro e w3 ⟨rfl, hb3⟩
    have hb3 := hb2.trans (hb3.mono hb2.size)
    go_wp2_with fail
    refine (HR.out _).mono ?_
    rintro e w4 ⟨rfl, m, rfl⟩
    go_wp2_with fail
    refine (HS.out _).mono ?_
    rintro e w5 ⟨rfl, m2, rfl⟩
    have hb5 := hb3.trans (drewB w.heap.size w3 (m + m2))
    go_wp2_with fail
    refine (HD.out _).mono ?_
    rintro e w6 ⟨rfl, hb6⟩
    have hb6 := hb5.trans (hb6.mono hb5.size)
    go_wp2_with fail
    refine (HH.out _).mono ?_
    rintro e w7 ⟨rfl, hb7⟩
    have hb7 := hb6.trans (hb7.mono hb6.size)
    go_wp2_with fail
    go_ret
    exact ⟨rfl, hb7⟩
  · rw [if_neg hn0] at HD HH
    by_cases hm : most < n
    · rw [if_pos hm] at HD HH
      go_enter Tryd.func4, Tryd.ntmps4
      go_wp2_with fail
      refine hA.out.mono ?_
      rintro e w1 ⟨rfl, hb1⟩
      go_wp2_with fail
      refine (hT.out _ hb1).mono ?_
      rintro e w2 ⟨rfl, hb2⟩
      have hb2 := hb1.trans (hb2.mono hb1.size)
      go_wp2_with fail
      refine (hX.out _ hb2).mono ?_
      rintro e w3 ⟨rfl, hb3⟩
      have hb3 := hb2.trans (hb3.mono hb2.size)
      go_wp2_with fail
      refine (HR.out _).mono ?_
      rintro e w4 ⟨rfl, m, rfl⟩
      go_wp2_with fail
      refine (HS.out _).mono ?_
      rintro e w5 ⟨rfl, m2, rfl⟩
      have hb5 := hb3.trans (drewB w.heap.size w3 (m + m2))
      go_wp2_with fail
      refine (HD.out _).mono ?_
      rintro e w6 ⟨rfl, hb6⟩
      have hb6 := hb5.trans (hb6.mono hb5.size)
      go_wp2_with fail
      refine (HH.out _).mono ?_
      rintro e w7 ⟨rfl, hb7⟩
      have hb7 := hb6.trans (hb7.mono hb6.size)
      go_wp2_with fail
      go_ret
      exact ⟨rfl, hb7⟩
    · rw [if_neg hm] at HD HH
      go_enter Tryd.func4, Tryd.ntmps4
      go_wp2_with fail
      refine hA.out.mono ?_
      rintro e w1 ⟨rfl, hb1⟩
      go_wp2_with fail
      refine (hT.out _ hb1).mono ?_
      rintro e w2 ⟨rfl, hb2⟩
      have hb2 := hb1.trans (hb2.mono hb1.size)
      go_wp2_with fail
      refine (hX.out _ hb2).mono ?_
      rintro e w3 ⟨rfl, hb3⟩
      have hb3 := hb2.trans (hb3.mono hb2.size)
      go_wp2_with fail
      refine (HR.out _).mono ?_
      rintro e w4 ⟨rfl, m, rfl⟩
      go_wp2_with fail
      refine (HS.out _).mono ?_
      rintro e w5 ⟨rfl, m2, rfl⟩
      have hb5 := hb3.trans (drewB w.heap.size w3 (m + m2))
      go_wp2_with fail
      refine (HD.out _).mono ?_
      rintro e w6 ⟨rfl, hb6⟩
      have hb6 := hb5.trans (hb6.mono hb5.size)
      go_wp2_with fail
      refine (HH.out _).mono ?_
      rintro e w7 ⟨rfl, hb7⟩
      have hb7 := hb6.trans (hb7.mono hb6.size)
      go_wp2_with fail
      go_ret
      exact ⟨rfl, hb7⟩
end Go.Proofs.YtcieocendgedaaaDoor
