/- Contracts and lemmas that the claim rests on: TgT. -/
import Derived.Test.YtnpbnlphmngbdaaGreatDoorGTgS
/- The walk of the law TargetReads. -/
namespace Go.Proofs.YtnpbnlphmngbdaaGreatDoor
open Go.RowKit

theorem TText_t (t : Tg.T) (w : World) (hS : t.scheme.length ≤ 150) (hN : t.host.2.1.length ≤ 150) (hp : t.host.2.2 < 9223372036854775808) (hP : t.path.length ≤ 150) (hQ : t.query.length ≤ 150) (htx : Tx w) :
    Calls Tryz.prog 9 #[tgV t] w fun e w' => e = .returned (txtV (Tg.txt t) 20) ∧ Below w.heap.size w w' :=
  TText_any _ _ _ _ _ _ _ _ w (by show t.scheme.toArray.size ≤ 150; simpa using hS) (by show t.host.2.1.toArray.size ≤ 150; simpa using hN) hp (by show t.path.toArray.size ≤ 150; simpa using hP) (by show t.query.toArray.size ≤ 150; simpa using hQ) htx
theorem ROrig_t (t : Tg.T) (w : World) (hp : t.path.length ≤ 900) (hq : t.query.length ≤ 900) :
    Calls Tryz.prog 11 #[tgV t] w fun e w' => e = .returned (.string ⟨(Tg.og t).toArray⟩) ∧ Below w.heap.size w w' :=
  ROrig_any _ _ _ _ _ _ _ _ w (by show t.path.toArray.size ≤ 900; simpa using hp) (by show t.query.toArray.size ≤ 900; simpa using hq)
set_option maxHeartbeats 6400000 in
theorem reads10_core (m0 s0 : ByteArray) (w : World) (hm0 : m0.size ≤ maxLen) (hs0 : s0.size ≤ maxLen) (ht : Tx w) :
    Calls Tryz.prog 3 #[.string m0, .string s0] w fun e w' => e = .returned (.bool true) ∧ Below w.heap.size w w' := by
  have HA := Lib.hid (awake10_any w ht)
  have HF := Lib.hid (fun w1 => few10_any m0 w1 hm0)
  have HG := Lib.hid (fun w1 => few10_any s0 w1 hs0)
  have hmz := few10_size m0
  have hsz := few10_size s0
  generalize few10 m0 = m at *
  generalize few10 s0 = s at *
  have HP := Lib.hid (fun w1 (h : Below w.heap.size w w1) => TParse_any m s w1 (by omega) (ht.stay h))
  have HR := Lib.hid (fun w1 => RTParse_any m s w1 (by omega))
  have hl : s.data.toList.length = s.size := by simp
  obtain ⟨o, ho⟩ : ∃ o, Tg.tg m.data.toList s.data.toList = o := ⟨_, rfl⟩
  rw [ho] at HP HR
  cases o with
  | none =>
    rw [show parV none = .tuple #[tv 0 ⟨#[]⟩ 0 ⟨#[]⟩ 0 ⟨#[]⟩ ⟨#[]⟩ false, .int .i64 20] from rfl] at HP HR
    unfold tv at HP HR
    clear ho ht hm0 hs0 hl
    go_enter Tryz.func3, Tryz.ntmps3
    go_wp2_with fail
    refine HA.out.mono ?_
    rintro e w1 ⟨rfl, hb1⟩
    have HB1 := Lib.hid hb1
    clear hb1
    go_wp2_with fail
    refine (HF.out _).mono ?_
    rintro e w2 ⟨rfl, hw2⟩
    subst hw2
    go_wp2_with fail
    refine (HG.out _).mono ?_
    rintro e w3 ⟨rfl, hw3⟩
    subst hw3
    go_wp2_with fail
    refine (HP.out _ HB1.out).mono ?_
    rintro e w4 ⟨rfl, hb4⟩
    have HB4 := Lib.hid (HB1.out.trans (hb4.mono HB1.out.size))
    clear hb4
    go_wp2_with fail
    refine (HR.out _).mono ?_
    rintro e w5 ⟨rfl, hb5⟩
    have HT5 := Lib.hid ((tgAt_new w4 0 ⟨#[]⟩ 0 ⟨#[]⟩ 0 ⟨#[]⟩ ⟨#[]⟩ false).below hb5 (by simp))
    have HB5 := Lib.hid ((HB4.out.alloc HB4.out.size (.cells #[.int .i64 0, .string ⟨#[]⟩, .int .i64 0, .string ⟨#[]⟩, .int .i64 0, .string ⟨#[]⟩, .string ⟨#[]⟩, .bool false] 29)).trans (hb5.mono (by simp; exact Nat.le_succ_of_le HB4.out.size)))
    clear hb5
    obtain ⟨c0, c1, c2, c3, c4, c5, c6, c7, -, -, -, -, -, -, -, -, l1⟩ := HT5.out
    go_wp2_with fail
    go_ret
    exact ⟨rfl, HB5.out.alloc HB5.out.size _⟩
  | some t =>
    obtain ⟨hz1, hz2, hz3, hz4, hz5⟩ := Tg.tg_le ho
    rw [hl] at hz1 hz2 hz4
    have HT := Lib.hid (fun w1 (h : Below w.heap.size w w1) => TText_t t w1 (by omega) (by omega) hz5 (by omega) (by omega) (ht.stay h))
    rw [Tg.txt_back ho] at HT
    have hwz : (Tg.wt t).length ≤ 900 := Tg.wt_le (k := t.kind) (hk := t.host.1) (S := t.scheme) (N := t.host.2.1) (PA := t.path) (QU := t.query) (ha := t.has) hz5 (by omega) (by omega) (by omega) (by omega)
    obtain ⟨X, hX⟩ : ∃ X : ByteArray, (⟨(Tg.wt t).toArray⟩ : ByteArray) = X := ⟨_, rfl⟩
    have hXl : X.data.toList = Tg.wt t := by rw [← hX]
    have hXz : X.size ≤ 900 := by
      have h : X.data.toList.length = X.size := by simp
      rw [hXl] at h
      omega
    have HQ := Lib.hid (fun w1 (h : Below w.heap.size w w1) => TParse_any m X w1 hXz (ht.stay h))
    rw [hXl, (Tg.wt_back ho).1] at HQ
    have HO := Lib.hid (fun w1 => TOrigin_t t w1 (by omega) (by omega))
    have HU := Lib.hid (fun w1 => ROrig_t t w1 (by omega) (by omega))
    rw [show txtV (some (Tg.wt t)) 20 = .tuple #[.string ⟨(Tg.wt t).toArray⟩, .int .i64 0] from rfl, hX] at HT
    generalize (⟨(Tg.og t).toArray⟩ : ByteArray) = O at *
    obtain ⟨k, sch, ⟨hk, nm, p⟩, pa, qu, ha⟩ := t
    unfold parV at HP HR HQ
    unfold tgV at HP HR HQ HT HO HU
    simp only at HP HR HQ HT HO HU
    generalize (⟨sch.toArray⟩ : ByteArray) = S at *
    generalize (⟨nm.toArray⟩ : ByteArray) = N at *
    generalize (⟨pa.toArray⟩ : ByteArray) = PA at *
    generalize (⟨qu.toArray⟩ : ByteArray) = QU at *
    unfold tv at HP HR HQ HT HO HU
    clear ho ht hm0 hs0 hl hz1 hz2 hz3 hz4 hz5 hwz hX hXl hXz
    go_enter Tryz.func3, Tryz.ntmps3
    go_wp2_with fail
    refine HA.out.mono ?_
    rintro e w1 ⟨rfl, hb1⟩
    have HB1 := Lib.hid hb1
    clear hb1
    go_wp2_with fail
    refine (HF.out _).mono ?_
    rintro e w2 ⟨rfl, hw2⟩
    subst hw2
    go_wp2_with fail
    refine (HG.out _).mono ?_
    rintro e w3 ⟨rfl, hw3⟩
    subst hw3
    go_wp2_with fail
    refine (HP.out _ HB1.out).mono ?_
    rintro e w4 ⟨rfl, hb4⟩
    have HB4 := Lib.hid (HB1.out.trans (hb4.mono HB1.out.size))
    clear hb4
    go_wp2_with fail
    refine (HR.out _).mono ?_
    rintro e w5 ⟨rfl, hb5⟩
    have HT5 := Lib.hid ((tgAt_new w4 k S hk N p PA QU ha).below hb5 (by simp))
    have HB5 := Lib.hid ((HB4.out.alloc HB4.out.size (.cells #[.int .i64 k, .string S, .int .i64 hk, .string N, .int .i64 p, .string PA, .string QU, .bool ha] 29)).trans (hb5.mono (by simp; exact Nat.le_succ_of_le HB4.out.size)))
    clear hb5
    obtain ⟨c0, c1, c2, c3, c4, c5, c6, c7, -, -, -, -, -, -, -, -, l1⟩ := HT5.out
    go_wp2_with fail
    refine (HT.out _ (HB5.out.alloc HB5.out.size _)).mono ?_
    rintro e w6 ⟨rfl, hb6⟩
    have HT6 := Lib.hid (HT5.out.below (((Below.refl w5.heap.size w5).alloc (Nat.le_refl _) (.cells #[.int .i64 k, .string S, .int .i64 hk, .string N, .int .i64 p, .string PA, .string QU, .bool ha] 29)).trans (hb6.mono (by simp))) HT5.out.lt)
    have HB6 := Lib.hid ((HB5.out.alloc HB5.out.size (.cells #[.int .i64 k, .string S, .int .i64 hk, .string N, .int .i64 p, .string PA, .string QU, .bool ha] 29)).trans (hb6.mono (by simp; exact Nat.le_succ_of_le HB5.out.size)))
    clear hb6 c0 c1 c2 c3 c4 c5 c6 c7 l1
    go_wp2_with fail
    refine (HQ.out _ HB6.out).mono ?_
    rintro e w7 ⟨rfl, hb7⟩
    have HT7 := Lib.hid (HT6.out.below hb7 HT6.out.lt)
    have HB7 := Lib.hid (HB6.out.trans (hb7.mono HB6.out.size))
    clear hb7
    obtain ⟨c0, c1, c2, c3, c4, c5, c6, c7, -, -, -, -, -, -, -, -, l1⟩ := HT7.out
    go_wp2_with fail
    generalize hW8 : w7.alloc (.cells #[.int .i64 k, .string S, .int .i64 hk, .string N, .int .i64 p, .string PA, .string QU, .bool ha] 29) = W8
    have hB8 : Below w7.heap.size w7 W8 := by rw [← hW8]; exact (Below.refl _ _).alloc (Nat.le_refl _) _
    have HT8 := Lib.hid (HT7.out.below hB8 HT7.out.lt)
    have HX8 := Lib.hid (show TgAt W8 w7.heap.size k S hk N p PA QU ha by rw [← hW8]; exact tgAt_new w7 k S hk N p PA QU ha)
    have HB8 := Lib.hid (HB7.out.trans (hB8.mono HB7.out.size))
    clear hW8 hB8 HT7 HB7 HT6 HB6 HT5 HB5 HB4 HB1 HQ HT HR HP HG HF HA c0 c1 c2 c3 c4 c5 c6 c7 l1
    obtain ⟨c0, c1, c2, c3, c4, c5, c6, c7, -, -, -, -, -, -, -, -, l1⟩ := HT8.out
    obtain ⟨d0, d1, d2, d3, d4, d5, d6, d7, -, -, -, -, -, -, -, -, l2⟩ := HX8.out
    first
      | go_region_with (first | (go_at_call 10; refine (HO.out _).mono ?_; rintro e w9 ⟨rfl, hb9⟩; clear c0 c1 c2 c3 c4 c5 c6 c7 l1 d0 d1 d2 d3 d4 d5 d6 d7 l2; have HT9 := Lib.hid (HT8.out.below ((Below.refl W8.heap.size W8).drew.trans (hb9.mono (by simp))) HT8.out.lt); have HB9 := Lib.hid (HB8.out.drew.trans (hb9.mono (by simp; exact HB8.out.size))); obtain ⟨c0, c1, c2, c3, c4, c5, c6, c7, -, -, -, -, -, -, -, -, l1⟩ := HT9.out; clear hb9) | (go_at_call 11; refine (HU.out _).mono ?_; rintro e w10 ⟨rfl, hb10⟩; have HB10 := Lib.hid (HB9.out.trans (hb10.mono HB9.out.size)); clear hb10))
      | fail
    all_goals go_wp2_with fail
    all_goals
      go_ret
      exact ⟨rfl, HB10.out⟩
end Go.Proofs.YtnpbnlphmngbdaaGreatDoor
