/- Contracts and lemmas that the claim rests on: TgI. -/
import Derived.Test.YtnpbnlphmngbdaaGreatDoorGTgG
import Derived.Test.YtnpbnlphmngbdaaGreatDoorGHoN
/- methodOf, write, Text: contracts. -/
namespace Go.Proofs.YtnpbnlphmngbdaaGreatDoor
open Go.RowKit

theorem methodOf_any (k : Int) (w : World) : Calls Tryz.prog 19 #[.int .i64 k] w fun e w' => e = .returned (.string (if k = 3 then ⟨#[67, 79, 78, 78, 69, 67, 84]⟩ else ⟨#[79, 80, 84, 73, 79, 78, 83]⟩)) ∧ w' = w := by
  by_cases h : k = 3
  · subst h
    rw [if_pos rfl]
    go_enter Tryz.func19, Tryz.ntmps19
    go_wp2_with fail
    go_ret
    exact ⟨rfl, rfl⟩
  · have hb : (k == 3) = false := by rw [beq_eq_false_iff_ne]; exact h
    rw [if_neg h]
    go_enter Tryz.func19, Tryz.ntmps19
    go_wp2_with fail
    go_ret
    exact ⟨rfl, rfl⟩
namespace Tg
/-- The text that the host of a target has; nothing, if it has none. -/
def ht (hk : Int) (nm : List UInt8) (p : Int) : List UInt8 := (Hp.textH hk nm p).getD []
theorem txtV_get (o : Option (List UInt8)) : ∃ er, txtV o 27 = .tuple #[.string ⟨(o.getD []).toArray⟩, .int .i64 er] := by
  cases o with
  | none => exact ⟨27, rfl⟩
  | some l => exact ⟨0, rfl⟩
theorem ht_le {hk p : Int} {nm : List UInt8} (hp : p < 9223372036854775808) : (ht hk nm p).length ≤ nm.length + 67 := by
  unfold ht Hp.textH
  split
  · exact Hp.writeL_le hk p nm hp
  · exact Nat.zero_le _
theorem join_sep (a b : ByteArray) : joinB ⟨#[58, 47, 47]⟩ [a, b] = ⟨(a.data.toList ++ (sep ++ b.data.toList)).toArray⟩ := by
  unfold joinB
  simp [Lib.join, sep]
end Tg
set_option maxHeartbeats 1600000 in
theorem TWrite_any (k : Int) (S : ByteArray) (hk : Int) (N : ByteArray) (p : Int) (PA QU : ByteArray) (ha : Bool) (w : World) (hS : S.size ≤ 150) (hN : N.size ≤ 150) (hp : p < 9223372036854775808) (hP : PA.size ≤ 150) (hQ : QU.size ≤ 150) (htx : Tx w) :
    Calls Tryz.prog 18 #[tv k S hk N p PA QU ha] w fun e w' => e = .returned (.string ⟨(Tg.wt ⟨k, S.data.toList, (hk, N.data.toList, p), PA.data.toList, QU.data.toList, ha⟩).toArray⟩) ∧ Below w.heap.size w w' := by
  have hb0 : ∀ o, Below w.heap.size w (w.alloc o) := fun o => (Below.refl _ _).alloc (Nat.le_refl _) _
  have HB0 := Lib.hid hb0
  have HJ := Lib.hid (fun w1 => PJoin_any PA QU ha w1 (by omega) (by omega))
  have HT := Lib.hid (fun w1 (h : Below w.heap.size w w1) => HText_any hk p N w1 (by omega) hp (htx.stay h))
  obtain ⟨er, her⟩ := Tg.txtV_get (Hp.textH hk N.data.toList p)
  rw [her] at HT
  rw [Tg.join_bytes] at HJ
  have hhl := Tg.ht_le (hk := hk) (p := p) (nm := N.data.toList) hp
  have hjl := Tg.join_le PA.data.toList QU.data.toList ha
  unfold Tg.wt
  unfold Tg.ht at hhl
  simp only
  generalize (Hp.textH hk N.data.toList p).getD [] = H at *
  generalize Tg.join PA.data.toList QU.data.toList ha = J at *
  clear her htx hb0
  have HT0 := Lib.hid (tgAt_new w k S hk N p PA QU ha)
  unfold tv
  unfold hostV at HT
  have hHl : (⟨H.toArray⟩ : ByteArray).data.toList = H := by simp
  have hJl : (⟨J.toArray⟩ : ByteArray).data.toList = J := by simp
  have hHz : (⟨H.toArray⟩ : ByteArray).size ≤ 300 := by
    show H.toArray.size ≤ 300
    have h1 : N.data.toList.length = N.size := by simp
    rw [List.size_toArray]; omega
  have hJz : (⟨J.toArray⟩ : ByteArray).size ≤ 400 := by
    show J.toArray.size ≤ 400
    have h1 : PA.data.toList.length = PA.size := by simp
    have h2 : QU.data.toList.length = QU.size := by simp
    rw [List.size_toArray]; omega
  clear hhl hjl
  by_cases h2 : k = 2
  · subst h2
    rw [if_pos rfl]
    have hsj := Tg.join_sep S ((⟨H.toArray⟩ : ByteArray) ++ ⟨J.toArray⟩)
    rw [list_append, hHl, hJl] at hsj
    generalize (⟨H.toArray⟩ : ByteArray) = H1 at *
    generalize (⟨J.toArray⟩ : ByteArray) = J1 at *
    obtain ⟨X, hX⟩ : ∃ X, H1 ++ J1 = X := ⟨_, rfl⟩
    have hXz : X.size ≤ 700 := by rw [← hX, ByteArray.size_append]; omega
    rw [hX] at hsj
    have HQJ := Lib.hid (fun w1 => QJoin_any ⟨#[58, 47, 47]⟩ (some ⟨w1.heap.size, 0, none⟩) 2 2 [S, X] (w1.alloc (.cells #[.string S, .string X] 9)) (two_texts w1 S X _) (by rintro x hx; injection hx with hx; subst hx; exact ⟨rfl, by simp⟩) (by omega) (by omega) (by
      unfold flat
      have h1 : S.data.toList.length = S.size := by simp
      have h2 : X.data.toList.length = X.size := by simp
      have h3 : (⟨#[58, 47, 47]⟩ : ByteArray).size = 3 := rfl
      rw [h3]
      simp only [List.flatMap_cons, List.flatMap_nil, List.append_nil, List.length_append, List.length_cons, List.length_nil]
      omega))
    rw [hsj] at HQJ
    obtain ⟨Z, hZ⟩ : ∃ Z : ByteArray, (⟨(S.data.toList ++ (Tg.sep ++ (H ++ J))).toArray⟩ : ByteArray) = Z := ⟨_, rfl⟩
    rw [hZ] at HQJ ⊢
    clear hsj hZ hHl hJl
    go_enter Tryz.func18, Tryz.ntmps18
    go_wp2_with (go_at_call 20; refine (HJ.out _).mono ?_; rintro e w1 ⟨rfl, hw1⟩; subst hw1)
    refine (HT.out _ (HB0.out _)).mono ?_
    rintro e w1 ⟨rfl, hb1⟩
    have k0 := (HT0.out.below hb1 (by simp)).c0
    have k1 := (HT0.out.below hb1 (by simp)).c1
    have HB1 := Lib.hid ((HB0.out (.cells #[.int .i64 2, .string S, .int .i64 hk, .string N, .int .i64 p, .string PA, .string QU, .bool ha] 29)).trans (hb1.mono (by simp)))
    clear hb1
    go_wp2_with fail
    refine (HQJ.out _).mono ?_
    rintro e w2 ⟨rfl, hb2⟩
    have HB2 := Lib.hid ((HB1.out.alloc HB1.out.size _).trans (hb2.mono (by simp; exact Nat.le_succ_of_le HB1.out.size)))
    clear hb2
    go_wp2_with fail
    go_ret
    exact ⟨rfl, HB2.out⟩
  · have b2 : (k == 2) = false := by rw [beq_eq_false_iff_ne]; exact h2
    rw [if_neg h2]
    by_cases h3 : k = 3
    · subst h3
      rw [if_pos rfl]
      generalize (⟨H.toArray⟩ : ByteArray) = H1 at *
      generalize (⟨J.toArray⟩ : ByteArray) = J1 at *
      clear hHz hJz hHl hJl
      go_enter Tryz.func18, Tryz.ntmps18
      go_wp2_with (go_at_call 20; refine (HJ.out _).mono ?_; rintro e w1 ⟨rfl, hw1⟩; subst hw1)
      refine (HT.out _ (HB0.out _)).mono ?_
      rintro e w1 ⟨rfl, hb1⟩
      have k0 := (HT0.out.below hb1 (by simp)).c0
      have k1 := (HT0.out.below hb1 (by simp)).c1
      have HB1 := Lib.hid ((HB0.out (.cells #[.int .i64 3, .string S, .int .i64 hk, .string N, .int .i64 p, .string PA, .string QU, .bool ha] 29)).trans (hb1.mono (by simp)))
      clear hb1
      go_wp2_with fail
      go_ret
      exact ⟨rfl, HB1.out⟩
    · have b3 : (k == 3) = false := by rw [beq_eq_false_iff_ne]; exact h3
      rw [if_neg h3]
      by_cases h4 : k = 4
      · subst h4
        rw [if_pos rfl]
        generalize (⟨H.toArray⟩ : ByteArray) = H1 at *
        generalize (⟨J.toArray⟩ : ByteArray) = J1 at *
        clear hHz hJz hHl hJl
        go_enter Tryz.func18, Tryz.ntmps18
        go_wp2_with (go_at_call 20; refine (HJ.out _).mono ?_; rintro e w1 ⟨rfl, hw1⟩; subst hw1)
        refine (HT.out _ (HB0.out _)).mono ?_
        rintro e w1 ⟨rfl, hb1⟩
        have k0 := (HT0.out.below hb1 (by simp)).c0
        have k1 := (HT0.out.below hb1 (by simp)).c1
        have HB1 := Lib.hid ((HB0.out (.cells #[.int .i64 4, .string S, .int .i64 hk, .string N, .int .i64 p, .string PA, .string QU, .bool ha] 29)).trans (hb1.mono (by simp)))
        clear hb1
        go_wp2_with fail
        go_ret
        exact ⟨rfl, HB1.out⟩
      · have b4 : (k == 4) = false := by rw [beq_eq_false_iff_ne]; exact h4
        rw [if_neg h4]
        generalize (⟨H.toArray⟩ : ByteArray) = H1 at *
        generalize (⟨J.toArray⟩ : ByteArray) = J1 at *
        clear hHz hJz hHl hJl h2 h3 h4
        go_enter Tryz.func18, Tryz.ntmps18
        go_wp2_with (go_at_call 20; refine (HJ.out _).mono ?_; rintro e w1 ⟨rfl, hw1⟩; subst hw1)
        refine (HT.out _ (HB0.out _)).mono ?_
        rintro e w1 ⟨rfl, hb1⟩
        have k0 := (HT0.out.below hb1 (by simp)).c0
        have k1 := (HT0.out.below hb1 (by simp)).c1
        have HB1 := Lib.hid ((HB0.out (.cells #[.int .i64 k, .string S, .int .i64 hk, .string N, .int .i64 p, .string PA, .string QU, .bool ha] 29)).trans (hb1.mono (by simp)))
        clear hb1
        go_wp2_with fail
        go_ret
        exact ⟨rfl, HB1.out⟩
end Go.Proofs.YtnpbnlphmngbdaaGreatDoor
