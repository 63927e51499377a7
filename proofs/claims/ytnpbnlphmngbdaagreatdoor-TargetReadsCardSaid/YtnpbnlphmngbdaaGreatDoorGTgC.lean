/- Contracts and lemmas that the claim rests on: TgC. -/
import Derived.Test.YtnpbnlphmngbdaaGreatDoorGTgB
/- hostEnd, authority: contracts. -/
namespace Go.Proofs.YtnpbnlphmngbdaaGreatDoor
open Go.RowKit

theorem two_ascii : ∀ (j : Nat) b, (⟨#[47, 63]⟩ : ByteArray).data.toList[j]? = some b → b.toNat < 128 := by
  intro j b h
  match j, h with
  | 0, h => injection h with h; subst h; decide
  | 1, h => injection h with h; subst h; decide
  | n + 2, h => cases h
theorem THostEnd_any (s : ByteArray) (w : World) (hs : s.size ≤ 900) :
    Calls Tryz.prog 40 #[.string s] w fun e w' => e = .returned (.int .i64 (Tg.hostN s.data.toList)) ∧ Below w.heap.size w w' := by
  have HI := Lib.hid (IndexAny_any s ⟨#[47, 63]⟩ w (by omega) rfl two_ascii)
  have hl : s.data.toList.length = s.size := by simp
  have hle := Tg.hostN_le s.data.toList
  rw [show (⟨#[47, 63]⟩ : ByteArray).data.toList = [47, 63] from rfl, Tg.hostN_any, hl] at HI
  rw [hl] at hle
  generalize Tg.hostN s.data.toList = n at *
  clear hl
  by_cases h : n < s.size
  · rw [if_pos h] at HI
    go_enter Tryz.func40, Tryz.ntmps40
    go_wp2_with (go_at_call 59; refine HI.out.mono ?_; rintro e w1 ⟨rfl, hb1⟩)
    go_ret
    exact ⟨rfl, hb1⟩
  · rw [if_neg h] at HI
    obtain rfl : n = s.size := by omega
    go_enter Tryz.func40, Tryz.ntmps40
    go_wp2_with (go_at_call 59; refine HI.out.mono ?_; rintro e w1 ⟨rfl, hb1⟩)
    go_ret
    exact ⟨rfl, hb1⟩
set_option maxHeartbeats 1600000 in
theorem authority_any (s : ByteArray) (w : World) (hs : s.size ≤ 900) (ht : Tx w) :
    Calls Tryz.prog 23 #[.string s] w fun e w' => e = .returned (.tuple #[tgV (Tg.au s.data.toList).1, .bool (Tg.au s.data.toList).2]) ∧ Below w.heap.size w w' := by
  have hb0 : ∀ o, Below w.heap.size w (w.alloc o) := fun o => (Below.refl _ _).alloc (Nat.le_refl _) _
  have HB0 := Lib.hid hb0
  have HP := Lib.hid (fun w1 (h : Below w.heap.size w w1) => HParse_any s w1 hs (ht.stay h))
  unfold Tg.au
  clear ht hb0
  generalize Hp.prs s.data.toList = o at *
  cases o with
  | none =>
    show Calls Tryz.prog _ _ w fun e w' => e = .returned (.tuple #[tv 3 ⟨#[]⟩ 0 ⟨#[]⟩ 0 ⟨#[]⟩ ⟨#[]⟩ false, .bool false]) ∧ Below w.heap.size w w'
    unfold prsV hostV at HP
    unfold tv
    simp only at HP
    go_enter Tryz.func23, Tryz.ntmps23
    go_wp2_with fail
    refine (HP.out _ (HB0.out _)).mono ?_
    rintro e w1 ⟨rfl, hb1⟩
    obtain ⟨d0, d1, d2, d3, d4, d5, d6, d7, g0, g1, g2, g3, g4, g5, g6, g7, l2⟩ := (tgAt_new w 0 ⟨#[]⟩ 0 ⟨#[]⟩ 0 ⟨#[]⟩ ⟨#[]⟩ false).below hb1 (by simp)
    have HB1 := Lib.hid ((HB0.out _).trans (hb1.mono (by simp)))
    clear hb1
    go_wp2_with fail
    go_region
    all_goals go_wp2_with fail
    all_goals
      refine bodyPost_ret (v := .tuple #[tv 3 ⟨#[]⟩ 0 ⟨#[]⟩ 0 ⟨#[]⟩ ⟨#[]⟩ false, .bool false]) (by simp [results, tv, Tryz.results23, go_sem, l2, d0, d1, d2, d3, d4, d5, d6, d7]) rfl ⟨rfl, ?_⟩
      exact ((putT_below HB1.out (Nat.le_refl _) _ _ _ _ _ _ _ _).alloc (by simp; omega) _).drew
  | some x =>
    obtain ⟨k, nm, p⟩ := x
    show Calls Tryz.prog _ _ w fun e w' => e = .returned (.tuple #[tv 3 ⟨#[]⟩ k ⟨nm.toArray⟩ p ⟨#[]⟩ ⟨#[]⟩ false, .bool (decide (p ≠ -1))]) ∧ Below w.heap.size w w'
    unfold prsV hostV at HP
    unfold tv
    simp only at HP
    generalize (⟨nm.toArray⟩ : ByteArray) = N at *
    by_cases hp : p = -1
    · rw [show decide (p ≠ -1) = false by simpa using hp]
      subst hp
      go_enter Tryz.func23, Tryz.ntmps23
      go_wp2_with fail
      refine (HP.out _ (HB0.out _)).mono ?_
      rintro e w1 ⟨rfl, hb1⟩
      obtain ⟨d0, d1, d2, d3, d4, d5, d6, d7, g0, g1, g2, g3, g4, g5, g6, g7, l2⟩ := (tgAt_new w 0 ⟨#[]⟩ 0 ⟨#[]⟩ 0 ⟨#[]⟩ ⟨#[]⟩ false).below hb1 (by simp)
      have HB1 := Lib.hid ((HB0.out _).trans (hb1.mono (by simp)))
      clear hb1
      go_wp2_with fail
      go_region
      all_goals go_wp2_with fail
      all_goals
        refine bodyPost_ret (v := .tuple #[tv 3 ⟨#[]⟩ k N (-1) ⟨#[]⟩ ⟨#[]⟩ false, .bool false]) (by simp [results, tv, Tryz.results23, go_sem, l2, d0, d1, d2, d3, d4, d5, d6, d7]) rfl ⟨rfl, ?_⟩
        exact ((putT_below HB1.out (Nat.le_refl _) _ _ _ _ _ _ _ _).alloc (by simp; omega) _).drew
    · rw [show decide (p ≠ -1) = true by simpa using hp]
      have hq : (p != -1) = true := by simpa using hp
      go_enter Tryz.func23, Tryz.ntmps23
      go_wp2_with fail
      refine (HP.out _ (HB0.out _)).mono ?_
      rintro e w1 ⟨rfl, hb1⟩
      obtain ⟨d0, d1, d2, d3, d4, d5, d6, d7, g0, g1, g2, g3, g4, g5, g6, g7, l2⟩ := (tgAt_new w 0 ⟨#[]⟩ 0 ⟨#[]⟩ 0 ⟨#[]⟩ ⟨#[]⟩ false).below hb1 (by simp)
      have HB1 := Lib.hid ((HB0.out _).trans (hb1.mono (by simp)))
      clear hb1
      go_wp2_with fail
      go_region
      all_goals go_wp2_with fail
      all_goals
        refine bodyPost_ret (v := .tuple #[tv 3 ⟨#[]⟩ k N p ⟨#[]⟩ ⟨#[]⟩ false, .bool true]) (by simp [results, tv, Tryz.results23, go_sem, l2, d0, d1, d2, d3, d4, d5, d6, d7]) rfl ⟨rfl, ?_⟩
        exact ((putT_below HB1.out (Nat.le_refl _) _ _ _ _ _ _ _ _).alloc (by simp; omega) _).drew
end Go.Proofs.YtnpbnlphmngbdaaGreatDoor
