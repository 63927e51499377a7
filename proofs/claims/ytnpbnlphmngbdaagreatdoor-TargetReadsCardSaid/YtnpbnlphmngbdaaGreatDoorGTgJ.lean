/- Contracts and lemmas that the claim rests on: TgJ. -/
import Derived.Test.YtnpbnlphmngbdaaGreatDoorGTgI
/- Text: its contract. -/
namespace Go.Proofs.YtnpbnlphmngbdaaGreatDoor
open Go.RowKit

namespace Tg
theorem wt_le {k hk p : Int} {S N PA QU : List UInt8} {ha : Bool} (hp : p < 9223372036854775808) (hS : S.length ≤ 150) (hN : N.length ≤ 150) (hP : PA.length ≤ 150) (hQ : QU.length ≤ 150) : (wt ⟨k, S, (hk, N, p), PA, QU, ha⟩).length ≤ 900 := by
  have h1 := ht_le (hk := hk) (p := p) (nm := N) hp
  have h2 := join_le PA QU ha
  unfold ht at h1
  unfold wt
  simp only
  split
  · simp only [List.length_append, show sep.length = 3 from rfl]; omega
  · split
    · omega
    · split
      · simp
      · omega
theorem txt_yes {t : T} (h : tg (meth t) (wt t) = some t) : txt t = some (wt t) := by unfold txt; rw [if_pos h]
theorem txt_no {t : T} (h : ¬ tg (meth t) (wt t) = some t) : txt t = none := by unfold txt; rw [if_neg h]
theorem ofS (S : ByteArray) : (⟨S.data.toList.toArray⟩ : ByteArray) = S := bytes_eq (by simp)
theorem back_list {S1 S : ByteArray} (h : S1.toList = S.toList) : S1 = S := bytes_eq (by rwa [ByteArray.toList_eq, ByteArray.toList_eq] at h)
end Tg
set_option maxHeartbeats 3200000 in
theorem TText_any (k : Int) (S : ByteArray) (hk : Int) (N : ByteArray) (p : Int) (PA QU : ByteArray) (ha : Bool) (w : World) (hS : S.size ≤ 150) (hN : N.size ≤ 150) (hp : p < 9223372036854775808) (hP : PA.size ≤ 150) (hQ : QU.size ≤ 150) (htx : Tx w) :
    Calls Tryz.prog 9 #[tv k S hk N p PA QU ha] w fun e w' => e = .returned (txtV (Tg.txt ⟨k, S.data.toList, (hk, N.data.toList, p), PA.data.toList, QU.data.toList, ha⟩) 20) ∧ Below w.heap.size w w' := by
  have hb0 : ∀ o, Below w.heap.size w (w.alloc o) := fun o => (Below.refl _ _).alloc (Nat.le_refl _) _
  have HB0 := Lib.hid hb0
  have HW := Lib.hid (fun w1 (h : Below w.heap.size w w1) => TWrite_any k S hk N p PA QU ha w1 hS hN hp hP hQ (htx.stay h))
  have hlen : ∀ B : ByteArray, B.data.toList.length = B.size := fun B => by simp
  have hwz := Tg.wt_le (k := k) (hk := hk) (ha := ha) hp (by rw [hlen]; exact hS) (by rw [hlen]; exact hN) (by rw [hlen]; exact hP) (by rw [hlen]; exact hQ)
  have hyes := fun h => Tg.txt_yes (t := ⟨k, S.data.toList, (hk, N.data.toList, p), PA.data.toList, QU.data.toList, ha⟩) h
  have hno := fun h => Tg.txt_no (t := ⟨k, S.data.toList, (hk, N.data.toList, p), PA.data.toList, QU.data.toList, ha⟩) h
  have HM := Lib.hid (fun w1 => methodOf_any k w1)
  obtain ⟨M, hM⟩ : ∃ M : ByteArray, (if k = 3 then (⟨#[67, 79, 78, 78, 69, 67, 84]⟩ : ByteArray) else ⟨#[79, 80, 84, 73, 79, 78, 83]⟩) = M := ⟨_, rfl⟩
  have hMl : M.data.toList = Tg.meth ⟨k, S.data.toList, (hk, N.data.toList, p), PA.data.toList, QU.data.toList, ha⟩ := by
    rw [← hM]
    unfold Tg.meth
    simp only
    split <;> rfl
  rw [hM] at HM
  have HP := Lib.hid (fun w1 (h : Below w.heap.size w w1) => TParse_any M ⟨(Tg.wt ⟨k, S.data.toList, (hk, N.data.toList, p), PA.data.toList, QU.data.toList, ha⟩).toArray⟩ w1 (by show (Tg.wt _).toArray.size ≤ 900; rw [List.size_toArray]; exact hwz) (htx.stay h))
  rw [hMl, show (⟨(Tg.wt ⟨k, S.data.toList, (hk, N.data.toList, p), PA.data.toList, QU.data.toList, ha⟩).toArray⟩ : ByteArray).data.toList = Tg.wt ⟨k, S.data.toList, (hk, N.data.toList, p), PA.data.toList, QU.data.toList, ha⟩ by simp] at HP
  generalize Tg.txt ⟨k, S.data.toList, (hk, N.data.toList, p), PA.data.toList, QU.data.toList, ha⟩ = TX at *
  generalize Tg.meth ⟨k, S.data.toList, (hk, N.data.toList, p), PA.data.toList, QU.data.toList, ha⟩ = ML at *
  generalize Tg.wt ⟨k, S.data.toList, (hk, N.data.toList, p), PA.data.toList, QU.data.toList, ha⟩ = WL at *
  obtain ⟨X, hX⟩ : ∃ X : ByteArray, (⟨WL.toArray⟩ : ByteArray) = X := ⟨_, rfl⟩
  rw [hX] at HP HW
  have HT0 := Lib.hid (tgAt_new w k S hk N p PA QU ha)
  obtain ⟨o, ho⟩ : ∃ o, Tg.tg ML WL = o := ⟨_, rfl⟩
  rw [ho] at HP hyes hno
  clear hb0 hlen hwz hM hMl htx ho hS hN hP hQ hp
  unfold tv at HW ⊢
  cases o with
  | none =>
    have hT := hno (by simp)
    subst hT
    rw [show parV none = .tuple #[tv 0 ⟨#[]⟩ 0 ⟨#[]⟩ 0 ⟨#[]⟩ ⟨#[]⟩ false, .int .i64 20] from rfl] at HP
    unfold tv at HP
    unfold txtV
    clear hyes hno hX
    go_enter Tryz.func9, Tryz.ntmps9
    go_wp2_with fail
    refine (HW.out _ (HB0.out _)).mono ?_
    rintro e w1 ⟨rfl, hb1⟩
    obtain ⟨c0, c1, c2, c3, c4, c5, c6, c7, -, -, -, -, -, -, -, -, l1⟩ := HT0.out.below hb1 (by simp)
    have HB1 := Lib.hid ((HB0.out (.cells #[.int .i64 k, .string S, .int .i64 hk, .string N, .int .i64 p, .string PA, .string QU, .bool ha] 29)).trans (hb1.mono (by simp)))
    clear hb1
    go_wp2_with fail
    refine (HM.out _).mono ?_
    rintro e w2 ⟨rfl, hw2⟩
    subst hw2
    go_wp2_with fail
    refine (HP.out _ HB1.out).mono ?_
    rintro e w3 ⟨rfl, hb3⟩
    have HB3 := Lib.hid (HB1.out.trans (hb3.mono HB1.out.size))
    clear hb3
    go_wp2_with fail
    go_ret2
    exact ⟨rfl, HB3.out.alloc HB3.out.size _⟩
  | some t =>
    obtain ⟨k1, sch1, ⟨hk1, nm1, p1⟩, pa1, qu1, ha1⟩ := t
    unfold parV tgV at HP
    simp only at HP
    by_cases hq : (⟨k1, sch1, (hk1, nm1, p1), pa1, qu1, ha1⟩ : Tg.T) = ⟨k, S.data.toList, (hk, N.data.toList, p), PA.data.toList, QU.data.toList, ha⟩
    · have hT := hyes (by rw [hq])
      subst hT
      injection hq with q1 q2 q3 q4 q5 q6
      injection q3 with q7 q8
      injection q8 with q8 q9
      subst q1 q2 q7 q8 q9 q4 q5 q6
      rw [Tg.ofS S, Tg.ofS N, Tg.ofS PA, Tg.ofS QU] at HP
      show Calls Tryz.prog _ _ w fun e w' => e = .returned (.tuple #[.string ⟨WL.toArray⟩, .int .i64 0]) ∧ Below w.heap.size w w'
      rw [hX]
      unfold tv at HP
      clear hyes hno hX
      go_enter Tryz.func9, Tryz.ntmps9
      go_wp2_with fail
      refine (HW.out _ (HB0.out _)).mono ?_
      rintro e w1 ⟨rfl, hb1⟩
      have HT1 := Lib.hid (HT0.out.below hb1 (by simp))
      have k0 := HT1.out.c0
      have HB1 := Lib.hid ((HB0.out (.cells #[.int .i64 k1, .string S, .int .i64 hk1, .string N, .int .i64 p1, .string PA, .string QU, .bool ha1] 29)).trans (hb1.mono (by simp)))
      clear hb1
      go_wp2_with fail
      refine (HM.out _).mono ?_
      rintro e w2 ⟨rfl, hw2⟩
      subst hw2
      go_wp2_with fail
      refine (HP.out _ HB1.out).mono ?_
      rintro e w3 ⟨rfl, hb3⟩
      obtain ⟨c0, c1, c2, c3, c4, c5, c6, c7, -, -, -, -, -, -, -, -, l1⟩ := HT1.out.below hb3 HT1.out.lt
      have HB3 := Lib.hid (HB1.out.trans (hb3.mono HB1.out.size))
      clear hb3 k0
      go_wp2_with fail
      go_ret2
      exact ⟨rfl, HB3.out.alloc HB3.out.size _⟩
    · have hT := hno (fun h => hq (Option.some.inj h))
      subst hT
      obtain ⟨S1, hS1⟩ : ∃ B : ByteArray, (⟨sch1.toArray⟩ : ByteArray) = B := ⟨_, rfl⟩
      obtain ⟨N1, hN1⟩ : ∃ B : ByteArray, (⟨nm1.toArray⟩ : ByteArray) = B := ⟨_, rfl⟩
      obtain ⟨PA1, hPA1⟩ : ∃ B : ByteArray, (⟨pa1.toArray⟩ : ByteArray) = B := ⟨_, rfl⟩
      obtain ⟨QU1, hQU1⟩ : ∃ B : ByteArray, (⟨qu1.toArray⟩ : ByteArray) = B := ⟨_, rfl⟩
      rw [hS1, hN1, hPA1, hQU1] at HP
      have HQ := Lib.hid (show ¬ (k1 = k ∧ S1.toList = S.toList ∧ hk1 = hk ∧ N1.toList = N.toList ∧ p1 = p ∧ PA1.toList = PA.toList ∧ QU1.toList = QU.toList ∧ ha1 = ha) by
        rintro ⟨e1, e2, e3, e4, e5, e6, e7, e8⟩
        apply hq
        rw [ByteArray.toList_eq, ByteArray.toList_eq] at e2 e4 e6 e7
        rw [← hS1] at e2
        rw [← hN1] at e4
        rw [← hPA1] at e6
        rw [← hQU1] at e7
        simp only at e2 e4 e6 e7
        rw [e1, e2, e3, e4, e5, e6, e7, e8])
      clear hyes hno hq hX hS1 hN1 hPA1 hQU1
      unfold tv at HP
      unfold txtV
      go_enter Tryz.func9, Tryz.ntmps9
      go_wp2_with fail
      refine (HW.out _ (HB0.out _)).mono ?_
      rintro e w1 ⟨rfl, hb1⟩
      have HT1 := Lib.hid (HT0.out.below hb1 (by simp))
      have k0 := HT1.out.c0
      have HB1 := Lib.hid ((HB0.out (.cells #[.int .i64 k, .string S, .int .i64 hk, .string N, .int .i64 p, .string PA, .string QU, .bool ha] 29)).trans (hb1.mono (by simp)))
      clear hb1
      go_wp2_with fail
      refine (HM.out _).mono ?_
      rintro e w2 ⟨rfl, hw2⟩
      subst hw2
      go_wp2_with fail
      refine (HP.out _ HB1.out).mono ?_
      rintro e w3 ⟨rfl, hb3⟩
      obtain ⟨c0, c1, c2, c3, c4, c5, c6, c7, -, -, -, -, -, -, -, -, l1⟩ := HT1.out.below hb3 HT1.out.lt
      have HB3 := Lib.hid (HB1.out.trans (hb3.mono HB1.out.size))
      clear hb3 k0
      go_wp2_with fail
      · exfalso
        exact HQ.out ⟨by assumption, by assumption, by assumption, by assumption, by assumption, by assumption, by assumption, by assumption⟩
      all_goals
        go_ret2
        exact ⟨rfl, HB3.out.alloc HB3.out.size _⟩
end Go.Proofs.YtnpbnlphmngbdaaGreatDoor
