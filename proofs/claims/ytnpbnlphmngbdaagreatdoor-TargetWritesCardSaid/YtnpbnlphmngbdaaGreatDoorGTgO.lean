/- Contracts and lemmas that the claim rests on: TgO. -/
import Derived.Test.YtnpbnlphmngbdaaGreatDoorGTgL
import Derived.Test.YtnpbnlphmngbdaaGreatDoorGTgN
/- The document's Parse of what has no scheme, and is no origin: its contracts. -/
namespace Go.Proofs.YtnpbnlphmngbdaaGreatDoor
open Go.RowKit

set_option maxHeartbeats 4000000 in
theorem RTParse_none (m s : ByteArray) (w : World) (hs : s.size ≤ 900) (e1 : (m.toList == [67, 79, 78, 78, 69, 67, 84]) = false)
    (e4 : (s.toList == [42]) = false ∨ ((s.toList == [42]) = true ∧ (m.toList == [79, 80, 84, 73, 79, 78, 83]) = false)) (hog : Tg.orig Tg.T.o1 s.data.toList = none) (c7 : ¬ B.fold (s.data.toList.take 7) = Tg.http ++ Tg.sep) (c8 : ¬ B.fold (s.data.toList.take 8) = Tg.https ++ Tg.sep) :
    Calls Tryz.prog 8 #[.string m, .string s] w fun e w' => e = .returned (.tuple #[tv 0 ⟨#[]⟩ 0 ⟨#[]⟩ 0 ⟨#[]⟩ ⟨#[]⟩ false, .int .i64 20]) ∧ Below w.heap.size w w' := by
  have hb0 : ∀ o, Below w.heap.size w (w.alloc o) := fun o => (Below.refl _ _).alloc (Nat.le_refl _) _
  have HB0 := Lib.hid hb0
  have HT0 := Lib.hid (tgAt_new w 0 ⟨#[]⟩ 0 ⟨#[]⟩ 0 ⟨#[]⟩ ⟨#[]⟩ false)
  have HO := Lib.hid (fun w1 => ROrigin_t Tg.T.o1 s w1 (by omega) rfl)
  have HOY := Lib.hid (fun t s w1 h1 h2 => ROrigin_t t s w1 h1 h2)
  clear hb0
  rw [← Tg.origR_get] at hog
  unfold Tg.get at hog
  generalize Tg.origR Tg.T.o1 s.data.toList = X at *
  rw [show tgV Tg.T.o1 = tv 1 ⟨#[]⟩ 0 ⟨#[]⟩ 0 ⟨#[]⟩ ⟨#[]⟩ false from rfl] at HO
  obtain ⟨⟨k1, sch1, ⟨hk1, nm1, p1⟩, pa1, qu1, ha1⟩, b1⟩ := X
  cases b1
  case true => cases hog
  unfold tgV at HO
  simp only at HO
  generalize (⟨sch1.toArray⟩ : ByteArray) = S1 at *
  generalize (⟨nm1.toArray⟩ : ByteArray) = N1 at *
  generalize (⟨pa1.toArray⟩ : ByteArray) = PA1 at *
  generalize (⟨qu1.toArray⟩ : ByteArray) = QU1 at *
  unfold tv at HO
  have hz : s.data.toList.length = s.size := by simp
  unfold tv
  by_cases z7 : s.size < 7
  · have h7' : (s.size : Int) < 7 := by omega
    have h8' : (s.size : Int) < 8 := by omega
    clear c7 c8 hog
    rcases e4 with e4 | ⟨e4, e5⟩
    all_goals
      go_enter Tryz.func8, Tryz.ntmps8
      go_wp2_with fail
      refine (HO.out _).mono ?_
      rintro e w1 ⟨rfl, hb1⟩
      have HT1 := Lib.hid (HT0.out.below hb1 (by simp))
      have HB1 := Lib.hid ((HB0.out (.cells #[.int .i64 0, .string ⟨#[]⟩, .int .i64 0, .string ⟨#[]⟩, .int .i64 0, .string ⟨#[]⟩, .string ⟨#[]⟩, .bool false] 29)).trans (hb1.mono (by simp)))
      clear hb1
      go_wp2_with fail
      generalize hW : (w1.alloc (.cells #[.int .i64 k1, .string S1, .int .i64 hk1, .string N1, .int .i64 p1, .string PA1, .string QU1, .bool ha1] 29)).alloc (.cells #[.string ⟨#[104, 116, 116, 112]⟩, .string ⟨#[104, 116, 116, 112, 115]⟩] 9) = Wa
      have hBW : Below w1.heap.size w1 Wa := by rw [← hW]; exact ((Below.refl _ _).alloc (Nat.le_refl _) _).alloc (by simp) _
      have HTa := Lib.hid (HT1.out.below hBW HT1.out.lt)
      have HBa := Lib.hid (HB1.out.trans (hBW.mono HB1.out.size))
      have xa0 : Wa.cell? ⟨w1.heap.size + 1, 0, none⟩ = some (.string ⟨#[104, 116, 116, 112]⟩) := by rw [← hW]; simp [go_sem]
      have xa1 : Wa.cell? ⟨w1.heap.size + 1, 1, none⟩ = some (.string ⟨#[104, 116, 116, 112, 115]⟩) := by rw [← hW]; simp [go_sem]
      have hza : w1.heap.size + 1 < Wa.heap.size := by rw [← hW]; simp
      have hw1 : w.heap.size ≤ w1.heap.size := HB1.out.size
      clear hW hBW HT1 HB1 HO HT0 HB0
      refine wp_loop_rounds 3 ?_
      rw [rounds_succ]
      go_wp2_with fail
      rw [rounds_succ]
      go_wp2_with fail
      rw [rounds_succ]
      obtain ⟨d0, d1, d2, d3, d4, d5, d6, d7, g0, g1, g2, g3, g4, g5, g6, g7, l2⟩ := HTa.out
      go_wp2_with fail
      refine bodyPost_ret (v := .tuple #[tv 0 ⟨#[]⟩ 0 ⟨#[]⟩ 0 ⟨#[]⟩ ⟨#[]⟩ false, .int .i64 20]) (by simp [results, tv, Tryz.results8, go_sem, d0, d1, d2, d3, d4, d5, d6, d7]) rfl ⟨rfl, ?_⟩
      exact putT_below HBa.out (Nat.le_refl _) _ _ _ _ _ _ _ _
  · by_cases z8 : s.size < 8
    · have h8' : (s.size : Int) < 8 := by omega
      have e4' : (s.toList == [42]) = false := by
        rw [eq_list, decide_eq_false_iff_not]
        intro h
        have := congrArg List.length h
        rw [hz] at this
        simp at this
        omega
      have HF7 := Lib.hid (fun w1 => RFold_any (s.extract 0 7) w1 (by simp [ByteArray.size_extract]; omega))
      have hf7 : ((B.foldS (s.extract 0 7)).toList == ((⟨#[104, 116, 116, 112]⟩ : ByteArray) ++ ⟨#[58, 47, 47]⟩).toList) = false := by
        rw [ByteArray.toList_eq, ByteArray.toList_eq, list_append, beq_eq_false_iff_ne]
        unfold B.foldS
        rw [Hp.ext_start]
        exact c7
      obtain ⟨X7, hX7⟩ : ∃ X, s.extract 0 7 = X := ⟨_, rfl⟩
      rw [hX7] at HF7 hf7
      generalize B.foldS X7 = F7 at *
      have h7' : (7 : Int) ≤ s.size := by omega
      clear c7 c8 hog e4
      go_enter Tryz.func8, Tryz.ntmps8
      go_wp2_with fail
      refine (HO.out _).mono ?_
      rintro e w1 ⟨rfl, hb1⟩
      have HT1 := Lib.hid (HT0.out.below hb1 (by simp))
      have HB1 := Lib.hid ((HB0.out (.cells #[.int .i64 0, .string ⟨#[]⟩, .int .i64 0, .string ⟨#[]⟩, .int .i64 0, .string ⟨#[]⟩, .string ⟨#[]⟩, .bool false] 29)).trans (hb1.mono (by simp)))
      clear hb1
      go_wp2_with fail
      generalize hW : (w1.alloc (.cells #[.int .i64 k1, .string S1, .int .i64 hk1, .string N1, .int .i64 p1, .string PA1, .string QU1, .bool ha1] 29)).alloc (.cells #[.string ⟨#[104, 116, 116, 112]⟩, .string ⟨#[104, 116, 116, 112, 115]⟩] 9) = Wa
      have hBW : Below w1.heap.size w1 Wa := by rw [← hW]; exact ((Below.refl _ _).alloc (Nat.le_refl _) _).alloc (by simp) _
      have HTa := Lib.hid (HT1.out.below hBW HT1.out.lt)
      have HBa := Lib.hid (HB1.out.trans (hBW.mono HB1.out.size))
      have xa0 : Wa.cell? ⟨w1.heap.size + 1, 0, none⟩ = some (.string ⟨#[104, 116, 116, 112]⟩) := by rw [← hW]; simp [go_sem]
      have xa1 : Wa.cell? ⟨w1.heap.size + 1, 1, none⟩ = some (.string ⟨#[104, 116, 116, 112, 115]⟩) := by rw [← hW]; simp [go_sem]
      have hza : w1.heap.size + 1 < Wa.heap.size := by rw [← hW]; simp
      have hw1 : w.heap.size ≤ w1.heap.size := HB1.out.size
      clear hW hBW HT1 HB1 HO HT0 HB0
      refine wp_loop_rounds 3 ?_
      rw [rounds_succ]
      go_wp2_with fail
      refine (HF7.out _).mono ?_
      rintro e Wb ⟨rfl, n7, hw7⟩
      have xb0 : Wb.cell? ⟨w1.heap.size + 1, 0, none⟩ = some (.string ⟨#[104, 116, 116, 112]⟩) := by rw [hw7]; simp [go_sem, xa0]
      have xb1 : Wb.cell? ⟨w1.heap.size + 1, 1, none⟩ = some (.string ⟨#[104, 116, 116, 112, 115]⟩) := by rw [hw7]; simp [go_sem, xa1]
      have hB7 : Below Wa.heap.size Wa Wb := by rw [hw7]; exact below_drewN _ _ _
      have HTb := Lib.hid (HTa.out.below hB7 HTa.out.lt)
      have HBb := Lib.hid (HBa.out.trans (hB7.mono HBa.out.size))
      have hzb : w1.heap.size + 1 < Wb.heap.size := Nat.lt_of_lt_of_le hza hB7.size
      clear hw7 hB7 HTa HBa xa0 xa1 hza
      go_wp2_with fail
      rw [rounds_succ]
      go_wp2_with fail
      rw [rounds_succ]
      obtain ⟨d0, d1, d2, d3, d4, d5, d6, d7, g0, g1, g2, g3, g4, g5, g6, g7, l2⟩ := HTb.out
      go_wp2_with fail
      refine bodyPost_ret (v := .tuple #[tv 0 ⟨#[]⟩ 0 ⟨#[]⟩ 0 ⟨#[]⟩ ⟨#[]⟩ false, .int .i64 20]) (by simp [results, tv, Tryz.results8, go_sem, d0, d1, d2, d3, d4, d5, d6, d7]) rfl ⟨rfl, ?_⟩
      exact putT_below HBb.out (Nat.le_refl _) _ _ _ _ _ _ _ _
    · have h8' : (8 : Int) ≤ s.size := by omega
      have e4' : (s.toList == [42]) = false := by
        rw [eq_list, decide_eq_false_iff_not]
        intro h
        have := congrArg List.length h
        rw [hz] at this
        simp at this
        omega
      have HF7 := Lib.hid (fun w1 => RFold_any (s.extract 0 7) w1 (by simp [ByteArray.size_extract]; omega))
      have hf7 : ((B.foldS (s.extract 0 7)).toList == ((⟨#[104, 116, 116, 112]⟩ : ByteArray) ++ ⟨#[58, 47, 47]⟩).toList) = false := by
        rw [ByteArray.toList_eq, ByteArray.toList_eq, list_append, beq_eq_false_iff_ne]
        unfold B.foldS
        rw [Hp.ext_start]
        exact c7
      obtain ⟨X7, hX7⟩ : ∃ X, s.extract 0 7 = X := ⟨_, rfl⟩
      rw [hX7] at HF7 hf7
      generalize B.foldS X7 = F7 at *
      have h7' : (7 : Int) ≤ s.size := by omega
      have HF8 := Lib.hid (fun w1 => RFold_any (s.extract 0 8) w1 (by simp [ByteArray.size_extract]; omega))
      have hf8 : ((B.foldS (s.extract 0 8)).toList == ((⟨#[104, 116, 116, 112, 115]⟩ : ByteArray) ++ ⟨#[58, 47, 47]⟩).toList) = false := by
        rw [ByteArray.toList_eq, ByteArray.toList_eq, list_append, beq_eq_false_iff_ne]
        unfold B.foldS
        rw [Hp.ext_start]
        exact c8
      obtain ⟨X8, hX8⟩ : ∃ X, s.extract 0 8 = X := ⟨_, rfl⟩
      rw [hX8] at HF8 hf8
      generalize B.foldS X8 = F8 at *
      have h8' : (8 : Int) ≤ s.size := by omega
      clear c7 c8 hog e4
      go_enter Tryz.func8, Tryz.ntmps8
      go_wp2_with fail
      refine (HO.out _).mono ?_
      rintro e w1 ⟨rfl, hb1⟩
      have HT1 := Lib.hid (HT0.out.below hb1 (by simp))
      have HB1 := Lib.hid ((HB0.out (.cells #[.int .i64 0, .string ⟨#[]⟩, .int .i64 0, .string ⟨#[]⟩, .int .i64 0, .string ⟨#[]⟩, .string ⟨#[]⟩, .bool false] 29)).trans (hb1.mono (by simp)))
      clear hb1
      go_wp2_with fail
      generalize hW : (w1.alloc (.cells #[.int .i64 k1, .string S1, .int .i64 hk1, .string N1, .int .i64 p1, .string PA1, .string QU1, .bool ha1] 29)).alloc (.cells #[.string ⟨#[104, 116, 116, 112]⟩, .string ⟨#[104, 116, 116, 112, 115]⟩] 9) = Wa
      have hBW : Below w1.heap.size w1 Wa := by rw [← hW]; exact ((Below.refl _ _).alloc (Nat.le_refl _) _).alloc (by simp) _
      have HTa := Lib.hid (HT1.out.below hBW HT1.out.lt)
      have HBa := Lib.hid (HB1.out.trans (hBW.mono HB1.out.size))
      have xa0 : Wa.cell? ⟨w1.heap.size + 1, 0, none⟩ = some (.string ⟨#[104, 116, 116, 112]⟩) := by rw [← hW]; simp [go_sem]
      have xa1 : Wa.cell? ⟨w1.heap.size + 1, 1, none⟩ = some (.string ⟨#[104, 116, 116, 112, 115]⟩) := by rw [← hW]; simp [go_sem]
      have hza : w1.heap.size + 1 < Wa.heap.size := by rw [← hW]; simp
      have hw1 : w.heap.size ≤ w1.heap.size := HB1.out.size
      clear hW hBW HT1 HB1 HO HT0 HB0
      refine wp_loop_rounds 3 ?_
      rw [rounds_succ]
      go_wp2_with fail
      refine (HF7.out _).mono ?_
      rintro e Wb ⟨rfl, n7, hw7⟩
      have xb0 : Wb.cell? ⟨w1.heap.size + 1, 0, none⟩ = some (.string ⟨#[104, 116, 116, 112]⟩) := by rw [hw7]; simp [go_sem, xa0]
      have xb1 : Wb.cell? ⟨w1.heap.size + 1, 1, none⟩ = some (.string ⟨#[104, 116, 116, 112, 115]⟩) := by rw [hw7]; simp [go_sem, xa1]
      have hB7 : Below Wa.heap.size Wa Wb := by rw [hw7]; exact below_drewN _ _ _
      have HTb := Lib.hid (HTa.out.below hB7 HTa.out.lt)
      have HBb := Lib.hid (HBa.out.trans (hB7.mono HBa.out.size))
      have hzb : w1.heap.size + 1 < Wb.heap.size := Nat.lt_of_lt_of_le hza hB7.size
      clear hw7 hB7 HTa HBa xa0 xa1 hza
      go_wp2_with fail
      rw [rounds_succ]
      go_wp2_with fail
      refine (HF8.out _).mono ?_
      rintro e Wc ⟨rfl, n8, hw8⟩
      have xc0 : Wc.cell? ⟨w1.heap.size + 1, 0, none⟩ = some (.string ⟨#[104, 116, 116, 112]⟩) := by rw [hw8]; simp [go_sem, xb0]
      have xc1 : Wc.cell? ⟨w1.heap.size + 1, 1, none⟩ = some (.string ⟨#[104, 116, 116, 112, 115]⟩) := by rw [hw8]; simp [go_sem, xb1]
      have hB8 : Below Wb.heap.size Wb Wc := by rw [hw8]; exact below_drewN _ _ _
      have HTc := Lib.hid (HTb.out.below hB8 HTb.out.lt)
      have HBc := Lib.hid (HBb.out.trans (hB8.mono HBb.out.size))
      have hzc : w1.heap.size + 1 < Wc.heap.size := Nat.lt_of_lt_of_le hzb hB8.size
      clear hw8 hB8 HTb HBb xb0 xb1 hzb
      go_wp2_with fail
      rw [rounds_succ]
      obtain ⟨d0, d1, d2, d3, d4, d5, d6, d7, g0, g1, g2, g3, g4, g5, g6, g7, l2⟩ := HTc.out
      go_wp2_with fail
      refine bodyPost_ret (v := .tuple #[tv 0 ⟨#[]⟩ 0 ⟨#[]⟩ 0 ⟨#[]⟩ ⟨#[]⟩ false, .int .i64 20]) (by simp [results, tv, Tryz.results8, go_sem, d0, d1, d2, d3, d4, d5, d6, d7]) rfl ⟨rfl, ?_⟩
      exact putT_below HBc.out (Nat.le_refl _) _ _ _ _ _ _ _ _
theorem RTParse_abs (m s : ByteArray) (w : World) (hs : s.size ≤ 900) (e1 : (m.toList == [67, 79, 78, 78, 69, 67, 84]) = false)
    (e4 : (s.toList == [42]) = false ∨ ((s.toList == [42]) = true ∧ (m.toList == [79, 80, 84, 73, 79, 78, 83]) = false)) (hog : Tg.orig Tg.T.o1 s.data.toList = none) :
    Calls Tryz.prog 8 #[.string m, .string s] w fun e w' => e = .returned (parV (if B.fold (s.data.toList.take 7) = Tg.http ++ Tg.sep then Tg.beh Tg.http (s.data.toList.drop 7) else if B.fold (s.data.toList.take 8) = Tg.https ++ Tg.sep then Tg.beh Tg.https (s.data.toList.drop 8) else none)) ∧ Below w.heap.size w w' := by
  by_cases c7 : B.fold (s.data.toList.take 7) = Tg.http ++ Tg.sep
  · rw [if_pos c7]
    exact RTParse_http m s w hs e1 e4 hog c7
  · rw [if_neg c7]
    by_cases c8 : B.fold (s.data.toList.take 8) = Tg.https ++ Tg.sep
    · rw [if_pos c8]
      exact RTParse_https m s w hs e1 e4 hog c7 c8
    · rw [if_neg c8]
      exact RTParse_none m s w hs e1 e4 hog c7 c8
end Go.Proofs.YtnpbnlphmngbdaaGreatDoor
