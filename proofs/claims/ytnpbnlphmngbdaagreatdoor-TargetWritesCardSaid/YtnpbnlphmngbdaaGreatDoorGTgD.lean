/- Contracts and lemmas that the claim rests on: TgD. -/
import Derived.Test.YtnpbnlphmngbdaaGreatDoorGTgC
/- absolute: its contract. -/
namespace Go.Proofs.YtnpbnlphmngbdaaGreatDoor
open Go.RowKit

theorem CutSep_any (s : ByteArray) (w : World) (hs : s.size ≤ 100000) (hm : MaxL w) :
    Calls Tryz.prog 38 #[.string s, .string ⟨#[58, 47, 47]⟩] w fun e w' => e = .returned (.tuple #[.string ⟨(Lib.cut s.data.toList Tg.sep).1.toArray⟩, .string ⟨(Lib.cut s.data.toList Tg.sep).2.1.toArray⟩, .bool (Lib.cut s.data.toList Tg.sep).2.2]) ∧ ∃ n, w' = w.drewN n := by
  obtain ⟨m, hm⟩ := hm
  exact Any.strings_Cut lib_cut_lays s ⟨#[58, 47, 47]⟩ m w (by omega) hm
namespace Tg
theorem cut_le (l x : List UInt8) : (Lib.cut l x).1.length ≤ l.length ∧ (Lib.cut l x).2.1.length ≤ l.length := by
  unfold Lib.cut
  split
  · simp only [List.length_take, List.length_drop]; omega
  · simp
end Tg
set_option maxHeartbeats 1600000 in
theorem absolute_any (s : ByteArray) (w : World) (hs : s.size ≤ 900) (ht : Tx w) :
    Calls Tryz.prog 26 #[.string s] w fun e w' => e = .returned (.tuple #[tgV (Tg.ab s.data.toList).1, .bool (Tg.ab s.data.toList).2]) ∧ Below w.heap.size w w' := by
  have hb0 : ∀ o, Below w.heap.size w (w.alloc o) := fun o => (Below.refl _ _).alloc (Nat.le_refl _) _
  have HB0 := Lib.hid hb0
  have hl : s.data.toList.length = s.size := by simp
  have HC := Lib.hid (fun w1 (h : Below w.heap.size w w1) => CutSep_any s w1 (by omega) (ht.max.stay h))
  unfold Tg.ab
  obtain ⟨h1, h2⟩ := Tg.cut_le s.data.toList Tg.sep
  generalize (Lib.cut s.data.toList Tg.sep).1 = a at *
  generalize (Lib.cut s.data.toList Tg.sep).2.1 = r at *
  generalize (Lib.cut s.data.toList Tg.sep).2.2 = fd at *
  have ha : (⟨a.toArray⟩ : ByteArray).size ≤ 900 := by show a.toArray.size ≤ 900; rw [List.size_toArray]; omega
  have hr : (⟨r.toArray⟩ : ByteArray).size ≤ 900 := by show r.toArray.size ≤ 900; rw [List.size_toArray]; omega
  have HF := Lib.hid (fun w1 => Fold_any ⟨a.toArray⟩ w1 (by omega))
  have HE := Lib.hid (fun w1 => THostEnd_any ⟨r.toArray⟩ w1 hr)
  unfold B.foldS at HF
  rw [show (⟨a.toArray⟩ : ByteArray).data.toList = a by simp] at HF
  rw [show (⟨r.toArray⟩ : ByteArray).data.toList = r by simp] at HE
  generalize B.fold a = A at *
  have hnle := Tg.hostN_le r
  clear hb0 hl h1 h2
  obtain ⟨A1, hA1⟩ : ∃ A1 : ByteArray, (⟨A.toArray⟩ : ByteArray) = A1 := ⟨_, rfl⟩
  have hAl : A1.toList = A := by rw [← hA1, ByteArray.toList_eq]
  rw [hA1] at HF
  by_cases hA : A = Tg.http ∨ A = Tg.https
  · rw [if_pos hA]
    obtain ⟨R, hR⟩ : ∃ R : ByteArray, (⟨r.toArray⟩ : ByteArray) = R := ⟨_, rfl⟩
    have hRl : R.data.toList = r := by rw [← hR]
    have hRz : r.length = R.size := by rw [← hRl]; simp
    rw [hR] at HC HE hr
    generalize hn : Tg.hostN r = n at *
    have hX1 : (R.extract 0 n).data.toList = r.take n := by rw [Hp.ext_start, hRl]
    have hY1 : (R.extract n R.size).data.toList = r.drop n := by rw [Hp.ext_end, hRl]
    obtain ⟨X, hX⟩ : ∃ X, R.extract 0 n = X := ⟨_, rfl⟩
    obtain ⟨Y, hY⟩ : ∃ Y, R.extract n R.size = Y := ⟨_, rfl⟩
    have hXz : X.size ≤ 900 := by rw [← hX]; simp [ByteArray.size_extract]; omega
    have hYz : Y.size ≤ 900 := by rw [← hY]; simp [ByteArray.size_extract]; omega
    rw [hX] at hX1
    rw [hY] at hY1
    have HP := Lib.hid (fun w1 (h : Below w.heap.size w w1) => HParse_any X w1 hXz (ht.stay h))
    have HW := Lib.hid (fun t w1 (h : Below w.heap.size w w1) => withRest_t t Y w1 hYz (ht.max.stay h))
    rw [hX1] at HP
    rw [hY1] at HW
    have hn1 : (n : Int) ≤ R.size := by omega
    clear hX1 hY1 hR hRl hRz hr ha hn hnle ht hXz hYz
    generalize Hp.prs (r.take n) = o at *
    cases o with
    | none =>
      show Calls Tryz.prog _ _ w fun e w' => e = .returned (.tuple #[tv 0 ⟨#[]⟩ 0 ⟨#[]⟩ 0 ⟨#[]⟩ ⟨#[]⟩ false, .bool false]) ∧ Below w.heap.size w w'
      unfold prsV hostV at HP
      unfold tv
      simp only at HP
      have q : (A1.toList == [104, 116, 116, 112]) = true ∨ ((A1.toList == [104, 116, 116, 112]) = false ∧ (A1.toList == [104, 116, 116, 112, 115]) = true) := by
        rcases hA with h | h
        · exact .inl (by rw [hAl, h]; rfl)
        · exact .inr ⟨by rw [hAl, h]; rfl, by rw [hAl, h]; rfl⟩
      clear hA hA1 hAl HW
      rcases q with q | ⟨q, q2⟩
      all_goals
        go_enter Tryz.func26, Tryz.ntmps26
        go_wp2_with (go_at_call 38; refine (HC.out _ (HB0.out _)).mono ?_; rintro e w1 ⟨rfl, n1, hw1⟩; subst hw1)
        refine (HF.out _).mono ?_
        rintro e w2 ⟨rfl, hb2⟩
        have HT2 := Lib.hid (((tgAt_new w 0 ⟨#[]⟩ 0 ⟨#[]⟩ 0 ⟨#[]⟩ ⟨#[]⟩ false).below (below_drewN (w.heap.size + 1) _ n1) (by simp)).below hb2 (by simp))
        have HB2 := Lib.hid (((HB0.out _).trans (below_drewN _ _ n1)).trans (hb2.mono (by simp)))
        clear hb2
        go_wp2_with fail
        refine (HE.out _).mono ?_
        rintro e w3 ⟨rfl, hb3⟩
        have HT3 := Lib.hid (HT2.out.below hb3 HT2.out.lt)
        have HB3 := Lib.hid (HB2.out.trans (hb3.mono HB2.out.size))
        clear hb3 HT2 HB2
        go_wp2_with fail
        refine (HP.out _ HB3.out).mono ?_
        rintro e w4 ⟨rfl, hb4⟩
        obtain ⟨d0, d1, d2, d3, d4, d5, d6, d7, g0, g1, g2, g3, g4, g5, g6, g7, l2⟩ := HT3.out.below hb4 HT3.out.lt
        have HB4 := Lib.hid (HB3.out.trans (hb4.mono HB3.out.size))
        clear hb4 HT3 HB3
        go_wp2_with fail
        refine bodyPost_ret (v := .tuple #[tv 0 ⟨#[]⟩ 0 ⟨#[]⟩ 0 ⟨#[]⟩ ⟨#[]⟩ false, .bool false]) (by simp [results, tv, Tryz.results26, go_sem, l2, d0, d1, d2, d3, d4, d5, d6, d7]) rfl ⟨rfl, ?_⟩
        exact (putT_below HB4.out (Nat.le_refl _) _ _ _ _ _ _ _ _).alloc (by simp; omega) _
    | some x =>
      obtain ⟨k, nm, p⟩ := x
      show Calls Tryz.prog _ _ w fun e w' => e = .returned (.tuple #[tgV (Tg.wr (Tg.T.a2 A (k, nm, p)) (r.drop n)).1, .bool (Tg.wr (Tg.T.a2 A (k, nm, p)) (r.drop n)).2]) ∧ Below w.heap.size w w'
      have HV := Lib.hid (HW.out (Tg.T.a2 A (k, nm, p)))
      rw [show tgV (Tg.T.a2 A (k, nm, p)) = tv 2 ⟨A.toArray⟩ k ⟨nm.toArray⟩ p ⟨#[]⟩ ⟨#[]⟩ false from rfl, hA1] at HV
      generalize Tg.wr (Tg.T.a2 A (k, nm, p)) (r.drop n) = Z at *
      obtain ⟨⟨k1, sch1, ⟨hk1, nm1, p1⟩, pa1, qu1, ha1⟩, b1⟩ := Z
      unfold tgV at HV ⊢
      simp only at HV ⊢
      generalize (⟨sch1.toArray⟩ : ByteArray) = S1 at *
      generalize (⟨nm1.toArray⟩ : ByteArray) = N1 at *
      generalize (⟨pa1.toArray⟩ : ByteArray) = PA1 at *
      generalize (⟨qu1.toArray⟩ : ByteArray) = QU1 at *
      unfold prsV hostV at HP
      simp only at HP
      generalize (⟨nm.toArray⟩ : ByteArray) = NM at *
      unfold tv at HV ⊢
      have q : (A1.toList == [104, 116, 116, 112]) = true ∨ ((A1.toList == [104, 116, 116, 112]) = false ∧ (A1.toList == [104, 116, 116, 112, 115]) = true) := by
        rcases hA with h | h
        · exact .inl (by rw [hAl, h]; rfl)
        · exact .inr ⟨by rw [hAl, h]; rfl, by rw [hAl, h]; rfl⟩
      clear hA hA1 hAl HW
      rcases q with q | ⟨q, q2⟩
      all_goals
        go_enter Tryz.func26, Tryz.ntmps26
        go_wp2_with (go_at_call 38; refine (HC.out _ (HB0.out _)).mono ?_; rintro e w1 ⟨rfl, n1, hw1⟩; subst hw1)
        refine (HF.out _).mono ?_
        rintro e w2 ⟨rfl, hb2⟩
        have HT2 := Lib.hid (((tgAt_new w 0 ⟨#[]⟩ 0 ⟨#[]⟩ 0 ⟨#[]⟩ ⟨#[]⟩ false).below (below_drewN (w.heap.size + 1) _ n1) (by simp)).below hb2 (by simp))
        have HB2 := Lib.hid (((HB0.out _).trans (below_drewN _ _ n1)).trans (hb2.mono (by simp)))
        clear hb2
        go_wp2_with fail
        refine (HE.out _).mono ?_
        rintro e w3 ⟨rfl, hb3⟩
        have HT3 := Lib.hid (HT2.out.below hb3 HT2.out.lt)
        have HB3 := Lib.hid (HB2.out.trans (hb3.mono HB2.out.size))
        clear hb3 HT2 HB2
        go_wp2_with fail
        refine (HP.out _ HB3.out).mono ?_
        rintro e w4 ⟨rfl, hb4⟩
        have HT4 := Lib.hid (HT3.out.below hb4 HT3.out.lt)
        have HB4 := Lib.hid (HB3.out.trans (hb4.mono HB3.out.size))
        clear hb4 HT3 HB3
        go_wp2_with fail
        go_region_with (go_at_call 41; refine (HV.out _ ((HB4.out.alloc HB4.out.size _).drew)).mono ?_; rintro e w5 ⟨rfl, hb5⟩; obtain ⟨d0, d1, d2, d3, d4, d5, d6, d7, g0, g1, g2, g3, g4, g5, g6, g7, l2⟩ := HT4.out.below ((((Below.refl w4.heap.size w4).alloc (Nat.le_refl _) _).drew).trans (hb5.mono (by simp))) HT4.out.lt; have HB5 := Lib.hid (((HB4.out.alloc HB4.out.size (.cells #[.int .i64 k, .string NM, .int .i64 p] 27)).drew).trans (hb5.mono (by simp; exact Nat.le_succ_of_le HB4.out.size))); clear hb5)
        all_goals go_wp2_with fail
        all_goals
          refine bodyPost_ret (v := .tuple #[tv k1 S1 hk1 N1 p1 PA1 QU1 ha1, .bool b1]) (by simp [results, tv, Tryz.results26, go_sem, d0, d1, d2, d3, d4, d5, d6, d7]) rfl ⟨rfl, ?_⟩
          exact putT_below HB5.out (Nat.le_refl _) _ _ _ _ _ _ _ _
  · rw [if_neg hA]
    show Calls Tryz.prog _ _ w fun e w' => e = .returned (.tuple #[tv 0 ⟨#[]⟩ 0 ⟨#[]⟩ 0 ⟨#[]⟩ ⟨#[]⟩ false, .bool false]) ∧ Below w.heap.size w w'
    unfold tv
    rw [not_or] at hA
    have q1 : (A1.toList == [104, 116, 116, 112]) = false := by rw [hAl, beq_eq_false_iff_ne]; exact hA.1
    have q2 : (A1.toList == [104, 116, 116, 112, 115]) = false := by rw [hAl, beq_eq_false_iff_ne]; exact hA.2
    clear hA hA1 hAl HE ht
    go_enter Tryz.func26, Tryz.ntmps26
    go_wp2_with (go_at_call 38; refine (HC.out _ (HB0.out _)).mono ?_; rintro e w1 ⟨rfl, n1, hw1⟩; subst hw1)
    refine (HF.out _).mono ?_
    rintro e w2 ⟨rfl, hb2⟩
    obtain ⟨d0, d1, d2, d3, d4, d5, d6, d7, g0, g1, g2, g3, g4, g5, g6, g7, l2⟩ := ((tgAt_new w 0 ⟨#[]⟩ 0 ⟨#[]⟩ 0 ⟨#[]⟩ ⟨#[]⟩ false).below (below_drewN (w.heap.size + 1) _ n1) (by simp)).below hb2 (by simp)
    have HB2 := Lib.hid (((HB0.out _).trans (below_drewN _ _ n1)).trans (hb2.mono (by simp)))
    clear hb2
    go_wp2_with fail
    refine bodyPost_ret (v := .tuple #[tv 0 ⟨#[]⟩ 0 ⟨#[]⟩ 0 ⟨#[]⟩ ⟨#[]⟩ false, .bool false]) (by simp [results, tv, Tryz.results26, go_sem, d0, d1, d2, d3, d4, d5, d6, d7]) rfl ⟨rfl, ?_⟩
    exact putT_below HB2.out (Nat.le_refl _) _ _ _ _ _ _ _ _
end Go.Proofs.YtnpbnlphmngbdaaGreatDoor
