/- Contracts and lemmas that the claim rests on: TgM. -/
import Derived.Test.YtnpbnlphmngbdaaGreatDoorGTgO
/- The document's Parse: its contract. -/
namespace Go.Proofs.YtnpbnlphmngbdaaGreatDoor
open Go.RowKit

set_option maxHeartbeats 4000000 in
theorem RTParse_any (m s : ByteArray) (w : World) (hs : s.size ≤ 900) :
    Calls Tryz.prog 8 #[.string m, .string s] w fun e w' => e = .returned (parV (Tg.tg m.data.toList s.data.toList)) ∧ Below w.heap.size w w' := by
  rw [← Tg.tg_eq]
  have hb0 : ∀ o, Below w.heap.size w (w.alloc o) := fun o => (Below.refl _ _).alloc (Nat.le_refl _) _
  have HB0 := Lib.hid hb0
  have HT0 := Lib.hid (tgAt_new w 0 ⟨#[]⟩ 0 ⟨#[]⟩ 0 ⟨#[]⟩ ⟨#[]⟩ false)
  have e1 := eq_list m [67, 79, 78, 78, 69, 67, 84]
  have e2 := eq_list m [79, 80, 84, 73, 79, 78, 83]
  have e3 := eq_list s [42]
  unfold Tg.tgR
  clear hb0
  by_cases h1 : m.data.toList = Tg.connect
  · rw [if_pos h1]
    rw [decide_eq_true (show m.data.toList = [67, 79, 78, 78, 69, 67, 84] from h1)] at e1
    have HP := Lib.hid (fun w1 => RHParse_any s w1 hs)
    rw [Hp.prs_eq] at HP
    clear h1 e2 e3
    obtain ⟨o, ho⟩ : ∃ o, Hp.prs s.data.toList = o := ⟨_, rfl⟩
    rw [ho] at HP ⊢
    cases o with
    | none =>
      show Calls Tryz.prog _ _ w fun e w' => e = .returned (.tuple #[tv 0 ⟨#[]⟩ 0 ⟨#[]⟩ 0 ⟨#[]⟩ ⟨#[]⟩ false, .int .i64 20]) ∧ Below w.heap.size w w'
      unfold prsV hostV at HP
      simp only at HP
      unfold tv
      clear ho
      go_enter Tryz.func8, Tryz.ntmps8
      go_wp2_with fail
      refine (HP.out _).mono ?_
      rintro e w1 ⟨rfl, hb1⟩
      obtain ⟨d0, d1, d2, d3, d4, d5, d6, d7, g0, g1, g2, g3, g4, g5, g6, g7, l2⟩ := HT0.out.below hb1 (by simp)
      have HB1 := Lib.hid ((HB0.out _).trans (hb1.mono (by simp)))
      clear hb1
      go_wp2_with fail
      refine bodyPost_ret (v := .tuple #[tv 0 ⟨#[]⟩ 0 ⟨#[]⟩ 0 ⟨#[]⟩ ⟨#[]⟩ false, .int .i64 20]) (by simp [results, tv, Tryz.results8, go_sem, l2, d0, d1, d2, d3, d4, d5, d6, d7]) rfl ⟨rfl, ?_⟩
      exact (putT_below HB1.out (Nat.le_refl _) _ _ _ _ _ _ _ _).alloc (by simp; omega) _
    | some x =>
      obtain ⟨k, nm, p⟩ := x
      clear ho
      unfold prsV hostV at HP
      simp only at HP ⊢
      by_cases hp : p < 0
      · rw [if_pos hp]
        show Calls Tryz.prog _ _ w fun e w' => e = .returned (.tuple #[tv 0 ⟨#[]⟩ 0 ⟨#[]⟩ 0 ⟨#[]⟩ ⟨#[]⟩ false, .int .i64 20]) ∧ Below w.heap.size w w'
        generalize (⟨nm.toArray⟩ : ByteArray) = N at *
        unfold tv
        go_enter Tryz.func8, Tryz.ntmps8
        go_wp2_with fail
        refine (HP.out _).mono ?_
        rintro e w1 ⟨rfl, hb1⟩
        obtain ⟨d0, d1, d2, d3, d4, d5, d6, d7, g0, g1, g2, g3, g4, g5, g6, g7, l2⟩ := HT0.out.below hb1 (by simp)
        have HB1 := Lib.hid ((HB0.out _).trans (hb1.mono (by simp)))
        clear hb1
        go_wp2_with fail
        refine bodyPost_ret (v := .tuple #[tv 0 ⟨#[]⟩ 0 ⟨#[]⟩ 0 ⟨#[]⟩ ⟨#[]⟩ false, .int .i64 20]) (by simp [results, tv, Tryz.results8, go_sem, l2, d0, d1, d2, d3, d4, d5, d6, d7]) rfl ⟨rfl, ?_⟩
        exact (putT_below HB1.out (Nat.le_refl _) _ _ _ _ _ _ _ _).alloc (by simp; omega) _
      · rw [if_neg hp]
        show Calls Tryz.prog _ _ w fun e w' => e = .returned (.tuple #[tv 3 ⟨#[]⟩ k ⟨nm.toArray⟩ p ⟨#[]⟩ ⟨#[]⟩ false, .int .i64 0]) ∧ Below w.heap.size w w'
        generalize (⟨nm.toArray⟩ : ByteArray) = N at *
        unfold tv
        go_enter Tryz.func8, Tryz.ntmps8
        go_wp2_with fail
        refine (HP.out _).mono ?_
        rintro e w1 ⟨rfl, hb1⟩
        obtain ⟨d0, d1, d2, d3, d4, d5, d6, d7, g0, g1, g2, g3, g4, g5, g6, g7, l2⟩ := HT0.out.below hb1 (by simp)
        have HB1 := Lib.hid ((HB0.out _).trans (hb1.mono (by simp)))
        clear hb1
        go_wp2_with fail
        refine bodyPost_ret (v := .tuple #[tv 3 ⟨#[]⟩ k N p ⟨#[]⟩ ⟨#[]⟩ false, .int .i64 0]) (by simp [results, tv, Tryz.results8, go_sem, l2, d0, d1, d2, d3, d4, d5, d6, d7]) rfl ⟨rfl, ?_⟩
        exact (putT_below HB1.out (Nat.le_refl _) _ _ _ _ _ _ _ _).alloc (by simp; omega) _
  · rw [if_neg h1]
    rw [decide_eq_false (show ¬ m.data.toList = [67, 79, 78, 78, 69, 67, 84] from h1)] at e1
    clear h1
    by_cases h2 : s.data.toList = [42] ∧ m.data.toList = Tg.options
    · rw [if_pos h2]
      rw [decide_eq_true (show m.data.toList = [79, 80, 84, 73, 79, 78, 83] from h2.2)] at e2
      rw [decide_eq_true h2.1] at e3
      show Calls Tryz.prog _ _ w fun e w' => e = .returned (.tuple #[tv 4 ⟨#[]⟩ 0 ⟨#[]⟩ 0 ⟨#[]⟩ ⟨#[]⟩ false, .int .i64 0]) ∧ Below w.heap.size w w'
      clear h2
      unfold tv
      obtain ⟨d0, d1, d2, d3, d4, d5, d6, d7, g0, g1, g2, g3, g4, g5, g6, g7, l2⟩ := HT0.out
      go_enter Tryz.func8, Tryz.ntmps8
      go_wp2_with fail
      refine bodyPost_ret (v := .tuple #[tv 4 ⟨#[]⟩ 0 ⟨#[]⟩ 0 ⟨#[]⟩ ⟨#[]⟩ false, .int .i64 0]) (by simp [results, tv, Tryz.results8, go_sem]) rfl ⟨rfl, ?_⟩
      exact HB0.out _
    · rw [if_neg h2]
      have e4 : (s.toList == [42]) = false ∨ ((s.toList == [42]) = true ∧ (m.toList == [79, 80, 84, 73, 79, 78, 83]) = false) := by
        rw [e2, e3]
        by_cases h3 : s.data.toList = [42]
        · right
          exact ⟨decide_eq_true h3, decide_eq_false fun h => h2 ⟨h3, h⟩⟩
        · left
          exact decide_eq_false h3
      clear h2 e2 e3
      obtain ⟨og, hog⟩ : ∃ og, Tg.orig Tg.T.o1 s.data.toList = og := ⟨_, rfl⟩
      rw [hog]
      cases og with
      | none => exact RTParse_abs m s w hs e1 e4 hog
      | some tt =>
      have HO := Lib.hid (fun w1 => ROrigin_t Tg.T.o1 s w1 (by omega) rfl)
      rw [← Tg.origR_get] at hog
      unfold Tg.get at hog
      generalize Tg.origR Tg.T.o1 s.data.toList = X at *
      rw [show tgV Tg.T.o1 = tv 1 ⟨#[]⟩ 0 ⟨#[]⟩ 0 ⟨#[]⟩ ⟨#[]⟩ false from rfl] at HO
      obtain ⟨⟨k1, sch1, ⟨hk1, nm1, p1⟩, pa1, qu1, ha1⟩, b1⟩ := X
      cases b1
      · cases hog
      injection hog with hog
      subst hog
      unfold tgV at HO
      simp only at HO
      · show Calls Tryz.prog _ _ w fun e w' => e = .returned (.tuple #[tgV ⟨k1, sch1, (hk1, nm1, p1), pa1, qu1, ha1⟩, .int .i64 0]) ∧ Below w.heap.size w w'
        unfold tgV
        simp only
        generalize (⟨sch1.toArray⟩ : ByteArray) = S1 at *
        generalize (⟨nm1.toArray⟩ : ByteArray) = N1 at *
        generalize (⟨pa1.toArray⟩ : ByteArray) = PA1 at *
        generalize (⟨qu1.toArray⟩ : ByteArray) = QU1 at *
        unfold tv at HO ⊢
        rcases e4 with e4 | ⟨e4, e5⟩
        all_goals
          go_enter Tryz.func8, Tryz.ntmps8
          go_wp2_with fail
          refine (HO.out _).mono ?_
          rintro e w1 ⟨rfl, hb1⟩
          obtain ⟨d0, d1, d2, d3, d4, d5, d6, d7, g0, g1, g2, g3, g4, g5, g6, g7, l2⟩ := HT0.out.below hb1 (by simp)
          have HB1 := Lib.hid ((HB0.out _).trans (hb1.mono (by simp)))
          clear hb1
          go_wp2_with fail
          refine bodyPost_ret (v := .tuple #[tv k1 S1 hk1 N1 p1 PA1 QU1 ha1, .int .i64 0]) (by simp [results, tv, Tryz.results8, go_sem, l2, d0, d1, d2, d3, d4, d5, d6, d7]) rfl ⟨rfl, ?_⟩
          exact (putT_below HB1.out (Nat.le_refl _) _ _ _ _ _ _ _ _).alloc (by simp; omega) _
end Go.Proofs.YtnpbnlphmngbdaaGreatDoor
