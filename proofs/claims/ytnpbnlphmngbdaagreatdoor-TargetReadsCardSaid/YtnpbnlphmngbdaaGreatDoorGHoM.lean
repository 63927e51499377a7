/- Contracts and lemmas that the claim rests on: HoM. -/
import Derived.Test.YtnpbnlphmngbdaaGreatDoorGHoL
import Derived.Test.YtnpbnlphmngbdaaGreatDoorGQuil
import Derived.Test.YtnpbnlphmngbdaaGreatDoorGNum
/- isNamed, write, Text: contracts. -/
namespace Go.Proofs.YtnpbnlphmngbdaaGreatDoor
open Go.RowKit

theorem joinTwo (a b : ByteArray) : joinB ⟨#[58]⟩ [a, b] = ⟨(a.data.toList ++ 58 :: b.data.toList).toArray⟩ := by
  unfold joinB
  simp [Lib.join]
set_option maxHeartbeats 800000 in
theorem write_any (k p : Int) (nm : ByteArray) (w : World) (hs : nm.size ≤ 300) (hp : p < 9223372036854775808) (ht : Tx w) :
    Calls Tryz.prog 49 #[hostV k nm p] w fun e w' => e = .returned (.string ⟨(Hp.writeL k nm.data.toList p).toArray⟩) ∧ Below w.heap.size w w' := by
  unfold hostV
  by_cases hk : k = 3
  · subst hk
    obtain ⟨X, hX⟩ : ∃ X, (⟨#[91]⟩ ++ nm ++ ⟨#[93]⟩ : ByteArray) = X := ⟨_, rfl⟩
    have hXl : X.data.toList = 91 :: (nm.data.toList ++ [93]) := by rw [← hX]; simp
    have hXs : X.size ≤ 302 := by
      have h1 := congrArg List.length hXl
      rw [Array.length_toList] at h1
      have h2 : X.data.size = X.size := rfl
      simp at h1
      omega
    by_cases hq : p = -1
    · subst hq
      have hwl : Hp.writeL 3 nm.data.toList (-1) = X.data.toList := by
        unfold Hp.writeL
        rw [if_pos rfl, hXl, if_pos rfl, List.append_nil]
      rw [hwl]
      clear hwl hXl
      go_enter Tryz.func49, Tryz.ntmps49
      go_wp2_with fail
      go_ret
      exact ⟨by simp, (by repeat (first | with_reducible exact Below.refl _ _ | with_reducible assumption | (with_reducible refine Below.setCell ?_ ?_ _; rotate_left; · (simp <;> omega)) | (with_reducible refine Below.alloc ?_ ?_ _; rotate_left; · (simp <;> omega)) | with_reducible refine Below.drew ?_))⟩
    · have hwl : Hp.writeL 3 nm.data.toList p = X.data.toList ++ 58 :: (Nu.tx 10 p).data.toList := by
        unfold Hp.writeL
        rw [if_pos rfl, hXl, if_neg hq]
      rw [hwl]
      clear hwl hXl
      have hq' : (p == -1) = false := by rw [beq_eq_false_iff_ne]; exact hq
      have hb0 : ∀ o, Below w.heap.size w (w.alloc o) := fun o => (Below.refl _ _).alloc (Nat.le_refl _) _
      have HT := Lib.hid (fun w1 (h : Below w.heap.size w w1) => Text_any p hp w1 (ht.tabs.stay h))
      have htz := Nu.tx_size 10 (by omega) p hp
      have hj := joinTwo X (Nu.tx 10 p)
      generalize Nu.tx 10 p = t at *
      have HJ := Lib.hid (fun w1 => QJoin_any ⟨#[58]⟩ (some ⟨w1.heap.size, 0, none⟩) 2 2 [X, t] (w1.alloc (.cells #[.string X, .string t] 9)) (two_texts w1 X t _) (by rintro x hx; injection hx with hx; subst hx; exact ⟨rfl, by simp⟩) (by omega) (by omega) (by
        unfold flat
        have h1 : X.data.toList.length = X.size := by simp
        have h2 : t.data.toList.length = t.size := by simp
        have h3 : (⟨#[58]⟩ : ByteArray).size = 1 := rfl
        rw [h3]
        simp only [List.flatMap_cons, List.flatMap_nil, List.append_nil, List.length_append, List.length_cons, List.length_nil]
        omega))
      rw [hj] at HJ
      have HB0 := Lib.hid hb0
      clear hb0 hj
      go_enter Tryz.func49, Tryz.ntmps49
      go_wp2_with fail
      refine (HT.out _ (HB0.out _)).mono ?_
      rintro e w1 ⟨rfl, hb1⟩
      have HB1 := Lib.hid ((HB0.out _).trans (hb1.mono (by simp)))
      clear hb1
      go_wp2_with fail
      refine (HJ.out _).mono ?_
      rintro e w2 ⟨rfl, hb2⟩
      go_wp2_with fail
      go_ret
      exact ⟨rfl, (HB1.out.alloc HB1.out.size _).trans (hb2.mono (by have := HB1.out.size; simp; omega))⟩
  · have hk' : (k == 3) = false := by rw [beq_eq_false_iff_ne]; exact hk
    by_cases hq : p = -1
    · subst hq
      have hwl : Hp.writeL k nm.data.toList (-1) = nm.data.toList := by
        unfold Hp.writeL
        rw [if_neg hk, if_pos rfl, List.append_nil]
      rw [hwl]
      clear hwl
      go_enter Tryz.func49, Tryz.ntmps49
      go_wp2_with fail
      go_ret
      exact ⟨by simp, (by repeat (first | with_reducible exact Below.refl _ _ | with_reducible assumption | (with_reducible refine Below.setCell ?_ ?_ _; rotate_left; · (simp <;> omega)) | (with_reducible refine Below.alloc ?_ ?_ _; rotate_left; · (simp <;> omega)) | with_reducible refine Below.drew ?_))⟩
    · have hwl : Hp.writeL k nm.data.toList p = nm.data.toList ++ 58 :: (Nu.tx 10 p).data.toList := by
        unfold Hp.writeL
        rw [if_neg hk, if_neg hq]
      rw [hwl]
      clear hwl
      have hq' : (p == -1) = false := by rw [beq_eq_false_iff_ne]; exact hq
      have hb0 : ∀ o, Below w.heap.size w (w.alloc o) := fun o => (Below.refl _ _).alloc (Nat.le_refl _) _
      have HT := Lib.hid (fun w1 (h : Below w.heap.size w w1) => Text_any p hp w1 (ht.tabs.stay h))
      have htz := Nu.tx_size 10 (by omega) p hp
      have hj := joinTwo nm (Nu.tx 10 p)
      generalize Nu.tx 10 p = t at *
      have HJ := Lib.hid (fun w1 => QJoin_any ⟨#[58]⟩ (some ⟨w1.heap.size, 0, none⟩) 2 2 [nm, t] (w1.alloc (.cells #[.string nm, .string t] 9)) (two_texts w1 nm t _) (by rintro x hx; injection hx with hx; subst hx; exact ⟨rfl, by simp⟩) (by omega) (by omega) (by
        unfold flat
        have h1 : nm.data.toList.length = nm.size := by simp
        have h2 : t.data.toList.length = t.size := by simp
        have h3 : (⟨#[58]⟩ : ByteArray).size = 1 := rfl
        rw [h3]
        simp only [List.flatMap_cons, List.flatMap_nil, List.append_nil, List.length_append, List.length_cons, List.length_nil]
        omega))
      rw [hj] at HJ
      have HB0 := Lib.hid hb0
      clear hb0 hj
      go_enter Tryz.func49, Tryz.ntmps49
      go_wp2_with fail
      refine (HT.out _ (HB0.out _)).mono ?_
      rintro e w1 ⟨rfl, hb1⟩
      have HB1 := Lib.hid ((HB0.out _).trans (hb1.mono (by simp)))
      clear hb1
      go_wp2_with fail
      refine (HJ.out _).mono ?_
      rintro e w2 ⟨rfl, hb2⟩
      go_wp2_with fail
      go_ret
      exact ⟨rfl, (HB1.out.alloc HB1.out.size _).trans (hb2.mono (by have := HB1.out.size; simp; omega))⟩
end Go.Proofs.YtnpbnlphmngbdaaGreatDoor
