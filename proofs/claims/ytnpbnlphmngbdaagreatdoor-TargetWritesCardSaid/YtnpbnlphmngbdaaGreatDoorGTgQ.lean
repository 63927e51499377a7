/- Contracts and lemmas that the claim rests on: TgQ. -/
import Derived.Test.YtnpbnlphmngbdaaGreatDoorGTgP
/- The document's Text: its contract, by the kind of its target. -/
namespace Go.Proofs.YtnpbnlphmngbdaaGreatDoor
open Go.RowKit

set_option maxHeartbeats 6400000 in
theorem RTText_two (S : ByteArray) (hk : Int) (N : ByteArray) (p : Int) (PA QU : ByteArray) (ha : Bool) (w : World) (hS : S.size ≤ 150) (hN : N.size ≤ 150) (hp : p < 9223372036854775808) (hP : PA.size ≤ 150) (hQ : QU.size ≤ 150) :
    Calls Tryz.prog 12 #[tv 2 S hk N p PA QU ha] w fun e w' => e = .returned (txtV (Tg.txt ⟨2, S.data.toList, (hk, N.data.toList, p), PA.data.toList, QU.data.toList, ha⟩) 20) ∧ Below w.heap.size w w' := by
  have hb0 : ∀ o, Below w.heap.size w (w.alloc o) := fun o => (Below.refl _ _).alloc (Nat.le_refl _) _
  have HB0 := Lib.hid hb0
  have HT := Lib.hid (fun w1 => RHText_any hk p N w1 (by omega) hp)
  obtain ⟨er, her⟩ := Tg.txtV_get (Hp.textH hk N.data.toList p)
  rw [her] at HT
  unfold hostV at HT
  have hlen : ∀ B : ByteArray, B.data.toList.length = B.size := fun B => by simp
  have hwz := Tg.wt_le (k := 2) (hk := hk) (ha := ha) hp (by rw [hlen]; exact hS) (by rw [hlen]; exact hN) (by rw [hlen]; exact hP) (by rw [hlen]; exact hQ)
  have hhl := Tg.ht_le (hk := hk) (p := p) (nm := N.data.toList) hp
  have hyes := fun h => Tg.txt_yes (t := ⟨2, S.data.toList, (hk, N.data.toList, p), PA.data.toList, QU.data.toList, ha⟩) h
  have hno := fun h => Tg.txt_no (t := ⟨2, S.data.toList, (hk, N.data.toList, p), PA.data.toList, QU.data.toList, ha⟩) h
  have HT0 := Lib.hid (tgAt_new w 2 S hk N p PA QU ha)
  have hWT : Tg.wt ⟨2, S.data.toList, (hk, N.data.toList, p), PA.data.toList, QU.data.toList, ha⟩ = Tg.wt ⟨2, S.data.toList, (hk, N.data.toList, p), PA.data.toList, QU.data.toList, ha⟩ := rfl
  have hMT : Tg.meth ⟨2, S.data.toList, (hk, N.data.toList, p), PA.data.toList, QU.data.toList, ha⟩ = Tg.options := rfl
  conv at hWT => rhs; unfold Tg.wt; simp only
  simp only [Int.reduceEq, if_false, if_true] at hWT
  unfold Tg.ht at hhl
  generalize (Hp.textH hk N.data.toList p).getD [] = H at *
  obtain ⟨H1, hH1⟩ : ∃ B : ByteArray, (⟨H.toArray⟩ : ByteArray) = B := ⟨_, rfl⟩
  have hHl : H1.data.toList = H := by rw [← hH1]
  have hHz : H1.size ≤ 300 := by have := hlen H1; rw [hHl] at this; have := hlen N; omega
  rw [hH1] at HT
  have hMl : (⟨#[79, 80, 84, 73, 79, 78, 83]⟩ : ByteArray).data.toList = Tg.options := rfl
  rw [hMT] at hyes hno
  generalize Tg.txt ⟨2, S.data.toList, (hk, N.data.toList, p), PA.data.toList, QU.data.toList, ha⟩ = TX at *
  generalize hWL : Tg.wt ⟨2, S.data.toList, (hk, N.data.toList, p), PA.data.toList, QU.data.toList, ha⟩ = WL at *
  have fin : ∀ (X : ByteArray), X.data.toList = WL → ∀ w1, Calls Tryz.prog 8 #[.string ⟨#[79, 80, 84, 73, 79, 78, 83]⟩, .string X] w1 fun e w' => e = .returned (parV (Tg.tg Tg.options WL)) ∧ Below w1.heap.size w1 w' := by
    intro X hX w1
    have h := RTParse_any ⟨#[79, 80, 84, 73, 79, 78, 83]⟩ X w1 (by have := hlen X; rw [hX] at this; omega)
    rw [hMl, hX] at h
    exact h
  obtain ⟨o, ho⟩ : ∃ o, Tg.tg Tg.options WL = o := ⟨_, rfl⟩
  rw [ho] at hyes hno fin
  clear hb0 hwz hhl her hWL hMT hMl ho hH1
  unfold tv
  cases ha
  · have hXw : ((S ++ ⟨#[58, 47, 47]⟩ ++ H1 ++ PA : ByteArray)).data.toList = WL := by
      refine Eq.trans ?_ hWT.symm
      first
        | rfl
        | (simp only [hHl]; done)
        | (simp only [list_append, hHl]; unfold Tg.join; first | rfl | simp [Tg.sep])
    obtain ⟨X, hX⟩ : ∃ X, (S ++ ⟨#[58, 47, 47]⟩ ++ H1 ++ PA : ByteArray) = X := ⟨_, rfl⟩
    rw [hX] at hXw
    have hXL : (⟨WL.toArray⟩ : ByteArray) = X := bytes_eq (by rw [hXw])
    have HP := Lib.hid (fin X hXw)
    clear fin hXw hWT hlen hHl
    cases o with
    | none =>
      have hTX := hno (by simp)
      subst hTX
      rw [show parV none = .tuple #[tv 0 ⟨#[]⟩ 0 ⟨#[]⟩ 0 ⟨#[]⟩ ⟨#[]⟩ false, .int .i64 20] from rfl] at HP
      unfold tv at HP
      unfold txtV
      clear hyes hno hXL
      go_enter Tryz.func12, Tryz.ntmps12
      go_wp2_with fail
      refine (HT.out _).mono ?_
      rintro e w1 ⟨rfl, hb1⟩
      have HT1 := Lib.hid (HT0.out.below hb1 (by simp))
      obtain ⟨c0, c1, c2, c3, c4, c5, c6, c7, -, -, -, -, -, -, -, -, l1⟩ := HT1.out
      have HB1 := Lib.hid ((HB0.out (.cells #[.int .i64 2, .string S, .int .i64 hk, .string N, .int .i64 p, .string PA, .string QU, .bool false] 29)).trans (hb1.mono (by simp)))
      clear hb1
      go_wp2_with fail
      refine (HP.out _).mono ?_
      rintro e w3 ⟨rfl, hb3⟩
      clear c0 c1 c2 c3 c4 c5 c6 c7 l1
      obtain ⟨c0, c1, c2, c3, c4, c5, c6, c7, -, -, -, -, -, -, -, -, l1⟩ := HT1.out.below hb3 HT1.out.lt
      have HB3 := Lib.hid (HB1.out.trans (hb3.mono HB1.out.size))
      clear hb3
      go_wp2_with fail
      go_ret2
      exact ⟨rfl, HB3.out.alloc HB3.out.size _⟩
    | some t =>
      obtain ⟨k1, sch1, ⟨hk1, nm1, p1⟩, pa1, qu1, ha1⟩ := t
      unfold parV tgV at HP
      simp only at HP
      by_cases hq : (⟨k1, sch1, (hk1, nm1, p1), pa1, qu1, ha1⟩ : Tg.T) = ⟨2, S.data.toList, (hk, N.data.toList, p), PA.data.toList, QU.data.toList, false⟩
      · have hTX := hyes (by rw [hq])
        subst hTX
        injection hq with q1 q2 q3 q4 q5 q6
        injection q3 with q7 q8
        injection q8 with q8 q9
        subst q1 q2 q7 q8 q9 q4 q5 q6
        rw [Tg.ofS S, Tg.ofS N, Tg.ofS PA, Tg.ofS QU] at HP
        show Calls Tryz.prog _ _ w fun e w' => e = .returned (.tuple #[.string ⟨WL.toArray⟩, .int .i64 0]) ∧ Below w.heap.size w w'
        rw [hXL]
        unfold tv at HP
        clear hyes hno hXL
        go_enter Tryz.func12, Tryz.ntmps12
        go_wp2_with fail
        refine (HT.out _).mono ?_
        rintro e w1 ⟨rfl, hb1⟩
        have HT1 := Lib.hid (HT0.out.below hb1 (by simp))
        obtain ⟨c0, c1, c2, c3, c4, c5, c6, c7, -, -, -, -, -, -, -, -, l1⟩ := HT1.out
        have HB1 := Lib.hid ((HB0.out (.cells #[.int .i64 2, .string S, .int .i64 hk1, .string N, .int .i64 p1, .string PA, .string QU, .bool false] 29)).trans (hb1.mono (by simp)))
        clear hb1
        go_wp2_with fail
        refine (HP.out _).mono ?_
        rintro e w3 ⟨rfl, hb3⟩
        clear c0 c1 c2 c3 c4 c5 c6 c7 l1
        obtain ⟨c0, c1, c2, c3, c4, c5, c6, c7, -, -, -, -, -, -, -, -, l1⟩ := HT1.out.below hb3 HT1.out.lt
        have HB3 := Lib.hid (HB1.out.trans (hb3.mono HB1.out.size))
        clear hb3
        go_wp2_with fail
        go_ret2
        exact ⟨rfl, HB3.out.alloc HB3.out.size _⟩
      · have hTX := hno (fun h => hq (Option.some.inj h))
        subst hTX
        obtain ⟨S1, hS1⟩ : ∃ B : ByteArray, (⟨sch1.toArray⟩ : ByteArray) = B := ⟨_, rfl⟩
        obtain ⟨N1, hN1⟩ : ∃ B : ByteArray, (⟨nm1.toArray⟩ : ByteArray) = B := ⟨_, rfl⟩
        obtain ⟨PA1, hPA1⟩ : ∃ B : ByteArray, (⟨pa1.toArray⟩ : ByteArray) = B := ⟨_, rfl⟩
        obtain ⟨QU1, hQU1⟩ : ∃ B : ByteArray, (⟨qu1.toArray⟩ : ByteArray) = B := ⟨_, rfl⟩
        rw [hS1, hN1, hPA1, hQU1] at HP
        have HQ := Lib.hid (show ¬ (k1 = 2 ∧ S1.toList = S.toList ∧ hk1 = hk ∧ N1.toList = N.toList ∧ p1 = p ∧ PA1.toList = PA.toList ∧ QU1.toList = QU.toList ∧ ha1 = false) by
          rintro ⟨e1, e2, e3, e4, e5, e6, e7, e8⟩
          apply hq
          rw [ByteArray.toList_eq, ByteArray.toList_eq] at e2 e4 e6 e7
          rw [← hS1] at e2
          rw [← hN1] at e4
          rw [← hPA1] at e6
          rw [← hQU1] at e7
          simp only at e2 e4 e6 e7
          rw [e1, e2, e3, e4, e5, e6, e7, e8])
        clear hyes hno hq hXL hS1 hN1 hPA1 hQU1
        unfold tv at HP
        unfold txtV
        go_enter Tryz.func12, Tryz.ntmps12
        go_wp2_with fail
        refine (HT.out _).mono ?_
        rintro e w1 ⟨rfl, hb1⟩
        have HT1 := Lib.hid (HT0.out.below hb1 (by simp))
        obtain ⟨c0, c1, c2, c3, c4, c5, c6, c7, -, -, -, -, -, -, -, -, l1⟩ := HT1.out
        have HB1 := Lib.hid ((HB0.out (.cells #[.int .i64 2, .string S, .int .i64 hk, .string N, .int .i64 p, .string PA, .string QU, .bool false] 29)).trans (hb1.mono (by simp)))
        clear hb1
        go_wp2_with fail
        refine (HP.out _).mono ?_
        rintro e w3 ⟨rfl, hb3⟩
        clear c0 c1 c2 c3 c4 c5 c6 c7 l1
        obtain ⟨c0, c1, c2, c3, c4, c5, c6, c7, -, -, -, -, -, -, -, -, l1⟩ := HT1.out.below hb3 HT1.out.lt
        have HB3 := Lib.hid (HB1.out.trans (hb3.mono HB1.out.size))
        clear hb3
        go_wp2_with fail
        all_goals
          first
            | (exfalso; exact HQ.out ⟨by assumption, by assumption, by assumption, by assumption, by assumption, by assumption, by assumption, by assumption⟩)
            | (exfalso; apply HQ.out; simp_all; done)
            | (go_ret2; exact ⟨rfl, HB3.out.alloc HB3.out.size _⟩)
  · have hXw : ((S ++ ⟨#[58, 47, 47]⟩ ++ H1 ++ (PA ++ ⟨#[63]⟩ ++ QU) : ByteArray)).data.toList = WL := by
      refine Eq.trans ?_ hWT.symm
      first
        | rfl
        | (simp only [hHl]; done)
        | (simp only [list_append, hHl]; unfold Tg.join; first | rfl | simp [Tg.sep])
    obtain ⟨X, hX⟩ : ∃ X, (S ++ ⟨#[58, 47, 47]⟩ ++ H1 ++ (PA ++ ⟨#[63]⟩ ++ QU) : ByteArray) = X := ⟨_, rfl⟩
    rw [hX] at hXw
    have hXL : (⟨WL.toArray⟩ : ByteArray) = X := bytes_eq (by rw [hXw])
    have HP := Lib.hid (fin X hXw)
    clear fin hXw hWT hlen hHl
    cases o with
    | none =>
      have hTX := hno (by simp)
      subst hTX
      rw [show parV none = .tuple #[tv 0 ⟨#[]⟩ 0 ⟨#[]⟩ 0 ⟨#[]⟩ ⟨#[]⟩ false, .int .i64 20] from rfl] at HP
      unfold tv at HP
      unfold txtV
      clear hyes hno hXL
      go_enter Tryz.func12, Tryz.ntmps12
      go_wp2_with fail
      refine (HT.out _).mono ?_
      rintro e w1 ⟨rfl, hb1⟩
      have HT1 := Lib.hid (HT0.out.below hb1 (by simp))
      obtain ⟨c0, c1, c2, c3, c4, c5, c6, c7, -, -, -, -, -, -, -, -, l1⟩ := HT1.out
      have HB1 := Lib.hid ((HB0.out (.cells #[.int .i64 2, .string S, .int .i64 hk, .string N, .int .i64 p, .string PA, .string QU, .bool true] 29)).trans (hb1.mono (by simp)))
      clear hb1
      go_wp2_with fail
      refine (HP.out _).mono ?_
      rintro e w3 ⟨rfl, hb3⟩
      clear c0 c1 c2 c3 c4 c5 c6 c7 l1
      obtain ⟨c0, c1, c2, c3, c4, c5, c6, c7, -, -, -, -, -, -, -, -, l1⟩ := HT1.out.below hb3 HT1.out.lt
      have HB3 := Lib.hid (HB1.out.trans (hb3.mono HB1.out.size))
      clear hb3
      go_wp2_with fail
      go_ret2
      exact ⟨rfl, HB3.out.alloc HB3.out.size _⟩
    | some t =>
      obtain ⟨k1, sch1, ⟨hk1, nm1, p1⟩, pa1, qu1, ha1⟩ := t
      unfold parV tgV at HP
      simp only at HP
      by_cases hq : (⟨k1, sch1, (hk1, nm1, p1), pa1, qu1, ha1⟩ : Tg.T) = ⟨2, S.data.toList, (hk, N.data.toList, p), PA.data.toList, QU.data.toList, true⟩
      · have hTX := hyes (by rw [hq])
        subst hTX
        injection hq with q1 q2 q3 q4 q5 q6
        injection q3 with q7 q8
        injection q8 with q8 q9
        subst q1 q2 q7 q8 q9 q4 q5 q6
        rw [Tg.ofS S, Tg.ofS N, Tg.ofS PA, Tg.ofS QU] at HP
        show Calls Tryz.prog _ _ w fun e w' => e = .returned (.tuple #[.string ⟨WL.toArray⟩, .int .i64 0]) ∧ Below w.heap.size w w'
        rw [hXL]
        unfold tv at HP
        clear hyes hno hXL
        go_enter Tryz.func12, Tryz.ntmps12
        go_wp2_with fail
        refine (HT.out _).mono ?_
        rintro e w1 ⟨rfl, hb1⟩
        have HT1 := Lib.hid (HT0.out.below hb1 (by simp))
        obtain ⟨c0, c1, c2, c3, c4, c5, c6, c7, -, -, -, -, -, -, -, -, l1⟩ := HT1.out
        have HB1 := Lib.hid ((HB0.out (.cells #[.int .i64 2, .string S, .int .i64 hk1, .string N, .int .i64 p1, .string PA, .string QU, .bool true] 29)).trans (hb1.mono (by simp)))
        clear hb1
        go_wp2_with fail
        refine (HP.out _).mono ?_
        rintro e w3 ⟨rfl, hb3⟩
        clear c0 c1 c2 c3 c4 c5 c6 c7 l1
        obtain ⟨c0, c1, c2, c3, c4, c5, c6, c7, -, -, -, -, -, -, -, -, l1⟩ := HT1.out.below hb3 HT1.out.lt
        have HB3 := Lib.hid (HB1.out.trans (hb3.mono HB1.out.size))
        clear hb3
        go_wp2_with fail
        go_ret2
        exact ⟨rfl, HB3.out.alloc HB3.out.size _⟩
      · have hTX := hno (fun h => hq (Option.some.inj h))
        subst hTX
        obtain ⟨S1, hS1⟩ : ∃ B : ByteArray, (⟨sch1.toArray⟩ : ByteArray) = B := ⟨_, rfl⟩
        obtain ⟨N1, hN1⟩ : ∃ B : ByteArray, (⟨nm1.toArray⟩ : ByteArray) = B := ⟨_, rfl⟩
        obtain ⟨PA1, hPA1⟩ : ∃ B : ByteArray, (⟨pa1.toArray⟩ : ByteArray) = B := ⟨_, rfl⟩
        obtain ⟨QU1, hQU1⟩ : ∃ B : ByteArray, (⟨qu1.toArray⟩ : ByteArray) = B := ⟨_, rfl⟩
        rw [hS1, hN1, hPA1, hQU1] at HP
        have HQ := Lib.hid (show ¬ (k1 = 2 ∧ S1.toList = S.toList ∧ hk1 = hk ∧ N1.toList = N.toList ∧ p1 = p ∧ PA1.toList = PA.toList ∧ QU1.toList = QU.toList ∧ ha1 = true) by
          rintro ⟨e1, e2, e3, e4, e5, e6, e7, e8⟩
          apply hq
          rw [ByteArray.toList_eq, ByteArray.toList_eq] at e2 e4 e6 e7
          rw [← hS1] at e2
          rw [← hN1] at e4
          rw [← hPA1] at e6
          rw [← hQU1] at e7
          simp only at e2 e4 e6 e7
          rw [e1, e2, e3, e4, e5, e6, e7, e8])
        clear hyes hno hq hXL hS1 hN1 hPA1 hQU1
        unfold tv at HP
        unfold txtV
        go_enter Tryz.func12, Tryz.ntmps12
        go_wp2_with fail
        refine (HT.out _).mono ?_
        rintro e w1 ⟨rfl, hb1⟩
        have HT1 := Lib.hid (HT0.out.below hb1 (by simp))
        obtain ⟨c0, c1, c2, c3, c4, c5, c6, c7, -, -, -, -, -, -, -, -, l1⟩ := HT1.out
        have HB1 := Lib.hid ((HB0.out (.cells #[.int .i64 2, .string S, .int .i64 hk, .string N, .int .i64 p, .string PA, .string QU, .bool true] 29)).trans (hb1.mono (by simp)))
        clear hb1
        go_wp2_with fail
        refine (HP.out _).mono ?_
        rintro e w3 ⟨rfl, hb3⟩
        clear c0 c1 c2 c3 c4 c5 c6 c7 l1
        obtain ⟨c0, c1, c2, c3, c4, c5, c6, c7, -, -, -, -, -, -, -, -, l1⟩ := HT1.out.below hb3 HT1.out.lt
        have HB3 := Lib.hid (HB1.out.trans (hb3.mono HB1.out.size))
        clear hb3
        go_wp2_with fail
        all_goals
          first
            | (exfalso; exact HQ.out ⟨by assumption, by assumption, by assumption, by assumption, by assumption, by assumption, by assumption, by assumption⟩)
            | (exfalso; apply HQ.out; simp_all; done)
            | (go_ret2; exact ⟨rfl, HB3.out.alloc HB3.out.size _⟩)
end Go.Proofs.YtnpbnlphmngbdaaGreatDoor
