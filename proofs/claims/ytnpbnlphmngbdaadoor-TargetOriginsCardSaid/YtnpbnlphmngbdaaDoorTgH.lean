/- The walk of the law TargetOrigins. -/
import Derived.Test.YtnpbnlphmngbdaaDoorTgG
namespace Go.Proofs.YtnpbnlphmngbdaaDoor
open Go.RowKit

set_option maxHeartbeats 4000000 in
theorem origins10_core (m0 s0 : ByteArray) (w : World) (hm0 : m0.size ≤ maxLen) (hs0 : s0.size ≤ maxLen) (ht : Tx w) :
    Calls Tryd.prog 3 #[.string m0, .string s0] w fun e w' => e = .returned (.bool true) ∧ Below w.heap.size w w' := by
  have HA := Lib.hid (awake10_any w ht)
  have HF := Lib.hid (fun w1 => few10_any m0 w1 hm0)
  have HG := Lib.hid (fun w1 => few10_any s0 w1 hs0)
  have hmz := few10_size m0
  have hsz := few10_size s0
  generalize few10 m0 = m at *
  generalize few10 s0 = s at *
  have HP := Lib.hid (fun w1 (h : Below w.heap.size w w1) => TParse_any m s w1 (by omega) (ht.stay h))
  have hl : s.data.toList.length = s.size := by simp
  obtain ⟨o, ho⟩ : ∃ o, Tg.tg m.data.toList s.data.toList = o := ⟨_, rfl⟩
  rw [ho] at HP
  cases o with
  | none =>
    rw [show parV none = .tuple #[tv 0 ⟨#[]⟩ 0 ⟨#[]⟩ 0 ⟨#[]⟩ ⟨#[]⟩ false, .int .i64 20] from rfl] at HP
    unfold tv at HP
    clear ho ht hm0 hs0 hl
    go_enter Tryd.func3, Tryd.ntmps3
    go_wp2_with fail
    refine HA.out.mono ?_
    rintro e w1 ⟨rfl, hb1⟩
    have HB1 := Lib.hid hb1
    clear hb1
    go_wp2_with fail
    refine (HF.out _).mono ?_
    rintro e w2 ⟨rfl, hw2⟩
    subst hw2
    go_wp2_with fail
    refine (HG.out _).mono ?_
    rintro e w3 ⟨rfl, hw3⟩
    subst hw3
    go_wp2_with fail
    refine (HP.out _ HB1.out).mono ?_
    rintro e w4 ⟨rfl, hb4⟩
    have HB4 := Lib.hid (HB1.out.trans (hb4.mono HB1.out.size))
    clear hb4
    go_wp2_with fail
    go_ret
    exact ⟨rfl, HB4.out.alloc HB4.out.size _⟩
  | some t =>
    obtain ⟨hz1, hz2, hz3, hz4, hz5⟩ := Tg.tg_le ho
    rw [hl] at hz1 hz2
    have HO := Lib.hid (fun w1 => TOrigin_t t w1 (by omega) (by omega))
    by_cases h3 : t.kind = 3
    · obtain ⟨h4, h5⟩ := Tg.og_kind ho h3
      rw [h4] at HO
      have hmc : (m.toList == [67, 79, 78, 78, 69, 67, 84]) = true := by rw [eq_list, decide_eq_true_eq]; exact h5
      obtain ⟨k, sch, ⟨hk, nm, p⟩, pa, qu, ha⟩ := t
      simp only at h3
      subst h3
      unfold parV at HP
      unfold tgV at HP HO
      simp only at HP HO
      generalize (⟨sch.toArray⟩ : ByteArray) = S at *
      generalize (⟨nm.toArray⟩ : ByteArray) = N at *
      generalize (⟨pa.toArray⟩ : ByteArray) = PA at *
      generalize (⟨qu.toArray⟩ : ByteArray) = QU at *
      unfold tv at HP HO
      clear ho ht hm0 hs0 hl h4 h5 hz1 hz2 hz3 hz4 hz5
      go_enter Tryd.func3, Tryd.ntmps3
      go_wp2_with fail
      refine HA.out.mono ?_
      rintro e w1 ⟨rfl, hb1⟩
      have HB1 := Lib.hid hb1
      clear hb1
      go_wp2_with fail
      refine (HF.out _).mono ?_
      rintro e w2 ⟨rfl, hw2⟩
      subst hw2
      go_wp2_with fail
      refine (HG.out _).mono ?_
      rintro e w3 ⟨rfl, hw3⟩
      subst hw3
      go_wp2_with fail
      refine (HP.out _ HB1.out).mono ?_
      rintro e w4 ⟨rfl, hb4⟩
      have HB4 := Lib.hid (HB1.out.trans (hb4.mono HB1.out.size))
      clear hb4
      go_wp2_with fail
      refine (HO.out _).mono ?_
      rintro e w5 ⟨rfl, hb5⟩
      obtain ⟨c0, c1, c2, c3, c4, c5, c6, c7, -, -, -, -, -, -, -, -, l1⟩ := (tgAt_new w4 3 S hk N p PA QU ha).below hb5 (by simp)
      have HB5 := Lib.hid ((HB4.out.alloc HB4.out.size (.cells #[.int .i64 3, .string S, .int .i64 hk, .string N, .int .i64 p, .string PA, .string QU, .bool ha] 29)).trans (hb5.mono (by simp; exact Nat.le_succ_of_le HB4.out.size)))
      clear hb5
      go_wp2_with fail
      go_ret
      exact ⟨rfl, HB5.out⟩
    · obtain ⟨x, hx, hx2, hx3, hx4, hx5⟩ := Tg.og_back ho h3
      have hol := Tg.og_le t
      have hxl := Tg.tg_le hx
      have hOz : (⟨(Tg.og t).toArray⟩ : ByteArray).size ≤ 900 := by show (Tg.og t).toArray.size ≤ 900; rw [List.size_toArray]; omega
      have HQ := Lib.hid (fun w1 (h : Below w.heap.size w w1) => TParse_any m ⟨(Tg.og t).toArray⟩ w1 hOz (ht.stay h))
      rw [show (⟨(Tg.og t).toArray⟩ : ByteArray).data.toList = Tg.og t by simp, hx] at HQ
      have HX := Lib.hid (fun w1 => TOrigin_t x w1 (by omega) (by omega))
      rw [hx5] at HX
      have b3 : (t.kind == 3) = false := by rw [beq_eq_false_iff_ne]; exact h3
      have b2 : (x.kind == 2) = false := by rw [beq_eq_false_iff_ne]; exact hx2
      have b2' : (x.kind != 2) = true := by simp [bne, b2]
      clear hOz hol hxl hx hx5 ho ht
      generalize (⟨(Tg.og t).toArray⟩ : ByteArray) = O at *
      obtain ⟨k, sch, ⟨hk, nm, p⟩, pa, qu, ha⟩ := t
      obtain ⟨k1, sch1, ⟨hk1, nm1, p1⟩, pa1, qu1, ha1⟩ := x
      simp only at h3 hx2 hx3 hx4 b3 b2 b2'
      subst hx3 hx4
      unfold parV at HP HQ
      unfold tgV at HP HO HQ HX
      simp only at HP HO HQ HX
      generalize (⟨sch.toArray⟩ : ByteArray) = S at *
      generalize (⟨nm.toArray⟩ : ByteArray) = N at *
      generalize (⟨pa.toArray⟩ : ByteArray) = PA at *
      generalize (⟨qu1.toArray⟩ : ByteArray) = QU at *
      generalize (⟨sch1.toArray⟩ : ByteArray) = S1 at *
      generalize (⟨nm1.toArray⟩ : ByteArray) = N1 at *
      generalize (⟨pa1.toArray⟩ : ByteArray) = PA1 at *
      unfold tv at HP HO HQ HX
      clear hm0 hs0 hl h3 hx2 hz1 hz2 hz3 hz4 hz5
      go_enter Tryd.func3, Tryd.ntmps3
      go_wp2_with fail
      refine HA.out.mono ?_
      rintro e w1 ⟨rfl, hb1⟩
      have HB1 := Lib.hid hb1
      clear hb1
      go_wp2_with fail
      refine (HF.out _).mono ?_
      rintro e w2 ⟨rfl, hw2⟩
      subst hw2
      go_wp2_with fail
      refine (HG.out _).mono ?_
      rintro e w3 ⟨rfl, hw3⟩
      subst hw3
      go_wp2_with fail
      refine (HP.out _ HB1.out).mono ?_
      rintro e w4 ⟨rfl, hb4⟩
      have HB4 := Lib.hid (HB1.out.trans (hb4.mono HB1.out.size))
      clear hb4
      go_wp2_with fail
      refine (HO.out _).mono ?_
      rintro e w5 ⟨rfl, hb5⟩
      have HT5 := Lib.hid ((tgAt_new w4 k S hk N p PA QU ha1).below hb5 (by simp))
      have HB5 := Lib.hid ((HB4.out.alloc HB4.out.size (.cells #[.int .i64 k, .string S, .int .i64 hk, .string N, .int .i64 p, .string PA, .string QU, .bool ha1] 29)).trans (hb5.mono (by simp; exact Nat.le_succ_of_le HB4.out.size)))
      clear hb5
      have k5 := HT5.out.c0
      go_wp2_with fail
      refine (HQ.out _ HB5.out).mono ?_
      rintro e w6 ⟨rfl, hb6⟩
      have HT6 := Lib.hid (HT5.out.below hb6 HT5.out.lt)
      have HB6 := Lib.hid (HB5.out.trans (hb6.mono HB5.out.size))
      clear hb6 k5
      have k6 := HT6.out.c6
      have k7 := HT6.out.c7
      have l6 := HT6.out.lt
      go_wp2_with fail
      refine (HX.out _).mono ?_
      rintro e w7 ⟨rfl, hb7⟩
      have HB7 := Lib.hid ((HB6.out.alloc HB6.out.size (.cells #[.int .i64 k1, .string S1, .int .i64 hk1, .string N1, .int .i64 p1, .string PA1, .string QU, .bool ha1] 29)).trans (hb7.mono (by simp; exact Nat.le_succ_of_le HB6.out.size)))
      clear hb7
      go_wp2_with fail
      go_ret
      exact ⟨rfl, HB7.out⟩
end Go.Proofs.YtnpbnlphmngbdaaDoor
