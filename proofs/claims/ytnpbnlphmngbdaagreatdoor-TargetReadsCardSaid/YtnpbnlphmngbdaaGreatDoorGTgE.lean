/- Contracts and lemmas that the claim rests on: TgE. -/
import Derived.Test.YtnpbnlphmngbdaaGreatDoorGTgD
/- read, Parse: contracts. -/
namespace Go.Proofs.YtnpbnlphmngbdaaGreatDoor
open Go.RowKit

theorem eq_list (s : ByteArray) (l : List UInt8) : (s.toList == l) = decide (s.data.toList = l) := by
  rw [ByteArray.toList_eq, Bool.eq_iff_iff, beq_iff_eq, decide_eq_true_eq]
set_option maxHeartbeats 1600000 in
theorem TRead_any (m s : ByteArray) (w : World) (hs : s.size ≤ 900) (ht : Tx w) :
    Calls Tryz.prog 13 #[.string m, .string s] w fun e w' => e = .returned (.tuple #[tgV (Tg.rd m.data.toList s.data.toList).1, .bool (Tg.rd m.data.toList s.data.toList).2]) ∧ Below w.heap.size w w' := by
  have hb0 : ∀ o, Below w.heap.size w (w.alloc o) := fun o => (Below.refl _ _).alloc (Nat.le_refl _) _
  have HB0 := Lib.hid hb0
  have HT0 := Lib.hid (tgAt_new w 0 ⟨#[]⟩ 0 ⟨#[]⟩ 0 ⟨#[]⟩ ⟨#[]⟩ false)
  have HH := Lib.hid (fun w1 => HasPrefix_any s ⟨#[47]⟩ w1)
  rw [show (⟨#[47]⟩ : ByteArray).data.toList = [47] from rfl] at HH
  have HA := Lib.hid (fun w1 (h : Below w.heap.size w w1) => authority_any s w1 hs (ht.stay h))
  have HB := Lib.hid (fun w1 (h : Below w.heap.size w w1) => absolute_any s w1 hs (ht.stay h))
  have HW := Lib.hid (fun w1 (h : Below w.heap.size w w1) => withPath_t Tg.T.o1 s w1 (by omega) (ht.max.stay h))
  have e1 := eq_list m [67, 79, 78, 78, 69, 67, 84]
  have e2 := eq_list m [79, 80, 84, 73, 79, 78, 83]
  have e3 := eq_list s [42]
  unfold Tg.rd
  generalize Tg.au s.data.toList = XA at *
  generalize Tg.ab s.data.toList = XB at *
  generalize Tg.wp Tg.T.o1 s.data.toList = XW at *
  clear hb0 ht
  by_cases h1 : m.data.toList = Tg.connect
  · rw [if_pos h1]
    rw [decide_eq_true (show m.data.toList = [67, 79, 78, 78, 69, 67, 84] from h1)] at e1
    clear h1 HB HW HH e2 e3
    obtain ⟨⟨k1, sch1, ⟨hk1, nm1, p1⟩, pa1, qu1, ha1⟩, b1⟩ := XA
    unfold tgV at HA ⊢
    simp only at HA ⊢
    generalize (⟨sch1.toArray⟩ : ByteArray) = S1 at *
    generalize (⟨nm1.toArray⟩ : ByteArray) = N1 at *
    generalize (⟨pa1.toArray⟩ : ByteArray) = PA1 at *
    generalize (⟨qu1.toArray⟩ : ByteArray) = QU1 at *
    unfold tv at HA ⊢
    go_enter Tryz.func13, Tryz.ntmps13
    go_wp2_with fail
    refine (HA.out _ (HB0.out _)).mono ?_
    rintro e w1 ⟨rfl, hb1⟩
    obtain ⟨d0, d1, d2, d3, d4, d5, d6, d7, g0, g1, g2, g3, g4, g5, g6, g7, l2⟩ := HT0.out.below hb1 (by simp)
    have HB1 := Lib.hid ((HB0.out _).trans (hb1.mono (by simp)))
    clear hb1 HA HT0
    go_wp2_with fail
    refine bodyPost_ret (v := .tuple #[tv k1 S1 hk1 N1 p1 PA1 QU1 ha1, .bool b1]) (by simp [results, tv, Tryz.results13, go_sem, d0, d1, d2, d3, d4, d5, d6, d7]) rfl ⟨rfl, ?_⟩
    exact putT_below HB1.out (Nat.le_refl _) _ _ _ _ _ _ _ _
  · rw [if_neg h1]
    rw [decide_eq_false (show ¬ m.data.toList = [67, 79, 78, 78, 69, 67, 84] from h1)] at e1
    clear h1 HA
    by_cases h2 : m.data.toList = Tg.options ∧ s.data.toList = [42]
    · rw [if_pos h2]
      rw [decide_eq_true (show m.data.toList = [79, 80, 84, 73, 79, 78, 83] from h2.1)] at e2
      rw [decide_eq_true h2.2] at e3
      show Calls Tryz.prog _ _ w fun e w' => e = .returned (.tuple #[tv 4 ⟨#[]⟩ 0 ⟨#[]⟩ 0 ⟨#[]⟩ ⟨#[]⟩ false, .bool true]) ∧ Below w.heap.size w w'
      clear h2 HB HW HH
      unfold tv
      obtain ⟨d0, d1, d2, d3, d4, d5, d6, d7, g0, g1, g2, g3, g4, g5, g6, g7, l2⟩ := HT0.out
      go_enter Tryz.func13, Tryz.ntmps13
      go_wp2_with fail
      refine bodyPost_ret (v := .tuple #[tv 4 ⟨#[]⟩ 0 ⟨#[]⟩ 0 ⟨#[]⟩ ⟨#[]⟩ false, .bool true]) (by simp [results, tv, Tryz.results13, go_sem]) rfl ⟨rfl, ?_⟩
      exact HB0.out _
    · rw [if_neg h2]
      have e4 : (m.toList == [79, 80, 84, 73, 79, 78, 83]) = false ∨ ((m.toList == [79, 80, 84, 73, 79, 78, 83]) = true ∧ (s.toList == [42]) = false) := by
        rw [e2, e3]
        by_cases h3 : m.data.toList = [79, 80, 84, 73, 79, 78, 83]
        · right
          exact ⟨decide_eq_true h3, decide_eq_false fun h => h2 ⟨h3, h⟩⟩
        · left
          exact decide_eq_false h3
      clear h2 e2 e3
      generalize Lib.hasPrefix s.data.toList [47] = hp at *
      cases hp
      · rw [if_neg (by simp)]
        clear HW
        obtain ⟨⟨k1, sch1, ⟨hk1, nm1, p1⟩, pa1, qu1, ha1⟩, b1⟩ := XB
        unfold tgV at HB ⊢
        simp only at HB ⊢
        generalize (⟨sch1.toArray⟩ : ByteArray) = S1 at *
        generalize (⟨nm1.toArray⟩ : ByteArray) = N1 at *
        generalize (⟨pa1.toArray⟩ : ByteArray) = PA1 at *
        generalize (⟨qu1.toArray⟩ : ByteArray) = QU1 at *
        unfold tv at HB ⊢
        rcases e4 with e4 | ⟨e4, e5⟩
        all_goals
          go_enter Tryz.func13, Tryz.ntmps13
          go_wp2_with (go_at_call 24; refine (HH.out _).mono ?_; rintro e w1 ⟨rfl, hw1⟩; subst hw1)
          refine (HB.out _ (HB0.out _)).mono ?_
          rintro e w1 ⟨rfl, hb1⟩
          obtain ⟨d0, d1, d2, d3, d4, d5, d6, d7, g0, g1, g2, g3, g4, g5, g6, g7, l2⟩ := HT0.out.below hb1 (by simp)
          have HB1 := Lib.hid ((HB0.out _).trans (hb1.mono (by simp)))
          clear hb1 HB HT0
          go_wp2_with fail
          refine bodyPost_ret (v := .tuple #[tv k1 S1 hk1 N1 p1 PA1 QU1 ha1, .bool b1]) (by simp [results, tv, Tryz.results13, go_sem, d0, d1, d2, d3, d4, d5, d6, d7]) rfl ⟨rfl, ?_⟩
          exact putT_below HB1.out (Nat.le_refl _) _ _ _ _ _ _ _ _
      · rw [if_pos rfl]
        clear HB
        obtain ⟨⟨k1, sch1, ⟨hk1, nm1, p1⟩, pa1, qu1, ha1⟩, b1⟩ := XW
        rw [show tgV Tg.T.o1 = tv 1 ⟨#[]⟩ 0 ⟨#[]⟩ 0 ⟨#[]⟩ ⟨#[]⟩ false from rfl] at HW
        unfold tgV at HW ⊢
        simp only at HW ⊢
        generalize (⟨sch1.toArray⟩ : ByteArray) = S1 at *
        generalize (⟨nm1.toArray⟩ : ByteArray) = N1 at *
        generalize (⟨pa1.toArray⟩ : ByteArray) = PA1 at *
        generalize (⟨qu1.toArray⟩ : ByteArray) = QU1 at *
        unfold tv at HW ⊢
        rcases e4 with e4 | ⟨e4, e5⟩
        all_goals
          go_enter Tryz.func13, Tryz.ntmps13
          go_wp2_with (go_at_call 24; refine (HH.out _).mono ?_; rintro e w1 ⟨rfl, hw1⟩; subst hw1)
          refine (HW.out _ (HB0.out _)).mono ?_
          rintro e w1 ⟨rfl, hb1⟩
          obtain ⟨d0, d1, d2, d3, d4, d5, d6, d7, g0, g1, g2, g3, g4, g5, g6, g7, l2⟩ := HT0.out.below hb1 (by simp)
          have HB1 := Lib.hid ((HB0.out _).trans (hb1.mono (by simp)))
          clear hb1 HW HT0
          go_wp2_with fail
          refine bodyPost_ret (v := .tuple #[tv k1 S1 hk1 N1 p1 PA1 QU1 ha1, .bool b1]) (by simp [results, tv, Tryz.results13, go_sem, d0, d1, d2, d3, d4, d5, d6, d7]) rfl ⟨rfl, ?_⟩
          exact putT_below HB1.out (Nat.le_refl _) _ _ _ _ _ _ _ _
/-- What Parse hands back. -/
def parV (o : Option Tg.T) : Value := match o with
  | none => .tuple #[tgV Tg.T.zero, .int .i64 20]
  | some t => .tuple #[tgV t, .int .i64 0]
set_option maxHeartbeats 1600000 in
theorem TParse_any (m s : ByteArray) (w : World) (hs : s.size ≤ 900) (ht : Tx w) :
    Calls Tryz.prog 7 #[.string m, .string s] w fun e w' => e = .returned (parV (Tg.tg m.data.toList s.data.toList)) ∧ Below w.heap.size w w' := by
  have hb0 : ∀ o, Below w.heap.size w (w.alloc o) := fun o => (Below.refl _ _).alloc (Nat.le_refl _) _
  have HB0 := Lib.hid hb0
  have HT0 := Lib.hid (tgAt_new w 0 ⟨#[]⟩ 0 ⟨#[]⟩ 0 ⟨#[]⟩ ⟨#[]⟩ false)
  have HR := Lib.hid (fun w1 (h : Below w.heap.size w w1) => TRead_any m s w1 hs (ht.stay h))
  unfold Tg.tg Tg.get
  generalize Tg.rd m.data.toList s.data.toList = X at *
  clear hb0 ht
  obtain ⟨⟨k1, sch1, ⟨hk1, nm1, p1⟩, pa1, qu1, ha1⟩, b1⟩ := X
  cases b1
  · show Calls Tryz.prog _ _ w fun e w' => e = .returned (.tuple #[tv 0 ⟨#[]⟩ 0 ⟨#[]⟩ 0 ⟨#[]⟩ ⟨#[]⟩ false, .int .i64 20]) ∧ Below w.heap.size w w'
    unfold tgV at HR
    simp only at HR
    generalize (⟨sch1.toArray⟩ : ByteArray) = S1 at *
    generalize (⟨nm1.toArray⟩ : ByteArray) = N1 at *
    generalize (⟨pa1.toArray⟩ : ByteArray) = PA1 at *
    generalize (⟨qu1.toArray⟩ : ByteArray) = QU1 at *
    unfold tv at HR ⊢
    go_enter Tryz.func7, Tryz.ntmps7
    go_wp2_with fail
    refine (HR.out _ (HB0.out _)).mono ?_
    rintro e w1 ⟨rfl, hb1⟩
    obtain ⟨d0, d1, d2, d3, d4, d5, d6, d7, g0, g1, g2, g3, g4, g5, g6, g7, l2⟩ := HT0.out.below hb1 (by simp)
    have HB1 := Lib.hid ((HB0.out _).trans (hb1.mono (by simp)))
    clear hb1 HR HT0
    go_wp2_with fail
    refine bodyPost_ret (v := .tuple #[tv 0 ⟨#[]⟩ 0 ⟨#[]⟩ 0 ⟨#[]⟩ ⟨#[]⟩ false, .int .i64 20]) (by simp [results, tv, Tryz.results7, go_sem, l2, d0, d1, d2, d3, d4, d5, d6, d7]) rfl ⟨rfl, ?_⟩
    exact (putT_below HB1.out (Nat.le_refl _) _ _ _ _ _ _ _ _).alloc (by simp; omega) _
  · show Calls Tryz.prog _ _ w fun e w' => e = .returned (.tuple #[tgV ⟨k1, sch1, (hk1, nm1, p1), pa1, qu1, ha1⟩, .int .i64 0]) ∧ Below w.heap.size w w'
    unfold tgV at HR ⊢
    simp only at HR ⊢
    generalize (⟨sch1.toArray⟩ : ByteArray) = S1 at *
    generalize (⟨nm1.toArray⟩ : ByteArray) = N1 at *
    generalize (⟨pa1.toArray⟩ : ByteArray) = PA1 at *
    generalize (⟨qu1.toArray⟩ : ByteArray) = QU1 at *
    unfold tv at HR ⊢
    go_enter Tryz.func7, Tryz.ntmps7
    go_wp2_with fail
    refine (HR.out _ (HB0.out _)).mono ?_
    rintro e w1 ⟨rfl, hb1⟩
    obtain ⟨d0, d1, d2, d3, d4, d5, d6, d7, g0, g1, g2, g3, g4, g5, g6, g7, l2⟩ := HT0.out.below hb1 (by simp)
    have HB1 := Lib.hid ((HB0.out _).trans (hb1.mono (by simp)))
    clear hb1 HR HT0
    go_wp2_with fail
    refine bodyPost_ret (v := .tuple #[tv k1 S1 hk1 N1 p1 PA1 QU1 ha1, .int .i64 0]) (by simp [results, tv, Tryz.results7, go_sem, l2, d0, d1, d2, d3, d4, d5, d6, d7]) rfl ⟨rfl, ?_⟩
    exact (putT_below HB1.out (Nat.le_refl _) _ _ _ _ _ _ _ _).alloc (by simp; omega) _
end Go.Proofs.YtnpbnlphmngbdaaGreatDoor
