/- Contracts and lemmas that the claim rests on: QtG. -/
import Derived.Test.YtjgjdcikeagibaaGQtF
/- Quote and Either of the program: contracts. -/
namespace Go.Proofs.Ytjgjdcikeagibaa
open Go.RowKit

theorem AllVal_any (b : Nat) (s : ByteArray) (w : World) (hs : s.size ≤ 100000) (hc : w.cell? ⟨b, 0, none⟩ = some (.string s)) :
    Calls Try.prog 50 #[.func (.func 64) #[] #[], .slice (some ⟨b, 0, none⟩) 1 1] w fun e w' => e = .returned (.bool (Qd.vals s.data.toList)) ∧ Below w.heap.size w w' := by
  have hfl : (asks (fun _ c => B.val (c.toNat : Int)) [] (flat [s])).1 = Qd.vals s.data.toList := by
    rw [asks_pure]
    unfold flat Qd.vals
    simp
  have hlt := lt_of_cell hc
  have hA := All_any 64 #[] #[] (fun _ c => B.val (c.toNat : Int)) (fun _ W => W = w.alloc (.cells #[.bool false] 4)) ⟨b, 0, none⟩ 1 1 [s] rfl (by omega) (by simpa using hs) w enters_IsValue rfl
    (by
      rintro pre W rfl
      refine ⟨by simp [go_sem], by simp [go_sem], fun i hi => ?_⟩
      obtain rfl : i = 0 := by omega
      have hb : Below w.heap.size w (w.alloc (.cells #[.bool false] 4)) := (Below.refl _ _).alloc (Nat.le_refl _) _
      exact (hb.cell (p := ⟨b, 0, none⟩) hlt).trans hc)
    (by
      rintro pre c r W - - rfl
      refine (IsValue_any (c.toNat : Int) _).mono ?_
      rintro e w' ⟨rfl, rfl⟩
      exact ⟨rfl, rfl⟩)
  refine hA.mono ?_
  rintro e w' ⟨W, rfl, rfl, rfl⟩
  rw [hfl]
  exact ⟨rfl, (by repeat (first | with_reducible exact Below.refl _ _ | with_reducible assumption | (with_reducible refine Below.setCell ?_ ?_ _; rotate_left; · (simp <;> omega)) | (with_reducible refine Below.alloc ?_ ?_ _; rotate_left; · (simp <;> omega)) | with_reducible refine Below.drew ?_))⟩
namespace Qd
/-- The first mark, and what a text's bytes are behind it. -/
def qL (l : List UInt8) : List UInt8 := 34 :: enc l
theorem qL_len (l : List UInt8) : (qL l).length ≤ 2 * l.length + 1 := by
  unfold qL
  have := enc_len l
  simp
  omega
theorem qL_snoc (s : ByteArray) (k : Nat) (h : k < s.size) : qL (s.data.toList.take (k + 1)) = qL (s.data.toList.take k) ++ (if pl (s[k].toNat : Int) then [s[k]] else [92, s[k]]) := by
  unfold qL
  rw [B.take_snocB s k h, enc_append, List.cons_append]
  congr 2
  unfold enc
  simp
theorem qL_plain (s : ByteArray) (k : Nat) (h : k < s.size) (hp : pl (s[k].toNat : Int) = true) : qL (s.data.toList.take k) ++ [s[k]] = qL (s.data.toList.take (k + 1)) := by rw [qL_snoc s k h, if_pos hp]
theorem qL_esc (s : ByteArray) (k : Nat) (h : k < s.size) (hp : pl (s[k].toNat : Int) = false) : (qL (s.data.toList.take k) ++ [92]) ++ [s[k]] = qL (s.data.toList.take (k + 1)) := by
  rw [qL_snoc s k h, if_neg (by simp [hp]), List.append_assoc]
  rfl
theorem qL_done (s : ByteArray) (h : vals s.data.toList = true) : (⟨(qL s.data.toList ++ [34]).toArray⟩ : ByteArray) = qT s := by
  unfold qT
  rw [if_pos h]
  rfl
end Qd
set_option maxHeartbeats 1000000 in
theorem Quote_any (s : ByteArray) (w : World) (hs : s.size ≤ 10000) :
    Calls Try.prog 51 #[.string s] w fun e w' => e = .returned (.tuple #[.string (Qd.qT s), .int .i64 (Qd.qE s)]) ∧ Below w.heap.size w w' := by
  cases hv : Qd.vals s.data.toList
  · have e1 : Hid (Qd.qT s = ByteArray.empty) := by show _ = _; unfold Qd.qT; rw [hv]; rfl
    have e2 : Hid (Qd.qE s = 2) := by show _ = _; unfold Qd.qE; rw [hv]; rfl
    have HV := Lib.hid hv
    clear hv
    rw [e1.out, e2.out]
    go_enter Try.func51, Try.ntmps51
    go_wp2_with fail
    refine (AllVal_any w.heap.size s _ (by omega) (by simp [go_sem])).mono ?_
    rintro e w1 ⟨rfl, hb1⟩
    rw [HV.out]
    have HB : Hid (Below w.heap.size w w1) := Below.trans (by repeat (first | with_reducible exact Below.refl _ _ | with_reducible assumption | (with_reducible refine Below.setCell ?_ ?_ _; rotate_left; · (simp <;> omega)) | (with_reducible refine Below.alloc ?_ ?_ _; rotate_left; · (simp <;> omega)) | with_reducible refine Below.drew ?_)) (hb1.mono (by simp))
    clear hb1
    go_wp2_with fail
    go_ret2
    exact ⟨rfl, HB.out⟩
  · have e1 : Hid ((⟨(Qd.qL s.data.toList ++ [34]).toArray⟩ : ByteArray) = Qd.qT s) := Qd.qL_done s hv
    have e2 : Hid (Qd.qE s = 0) := by show _ = _; unfold Qd.qE; rw [hv]; rfl
    have HV := Lib.hid hv
    clear hv
    rw [e2.out]
    go_enter Try.func51, Try.ntmps51
    go_wp2_with fail
    refine (AllVal_any w.heap.size s _ (by omega) (by simp [go_sem])).mono ?_
    rintro e w1 ⟨rfl, hb1⟩
    rw [HV.out]
    have HB : Hid (Below w.heap.size w w1) := Below.trans (by repeat (first | with_reducible exact Below.refl _ _ | with_reducible assumption | (with_reducible refine Below.setCell ?_ ?_ _; rotate_left; · (simp <;> omega)) | (with_reducible refine Below.alloc ?_ ?_ _; rotate_left; · (simp <;> omega)) | with_reducible refine Below.drew ?_)) (hb1.mono (by simp))
    clear hb1
    have HM := Lib.hid (Bld.made w1)
    have hz1 := HB.out.size
    go_wp2_with fail
    refine (WriteByte_any _ _ 34 34 rfl _ HM.out (by simp)).mono ?_
    rintro e w2 ⟨rfl, hb2, hbl2⟩
    have HB2 : Hid (Below w.heap.size w w2) := (HB.out.alloc HB.out.size _).trans (hbl2.mono hz1)
    have HW2 : Hid (Bld w1.heap.size (Qd.qL (s.data.toList.take 0)) w2) := hb2
    clear hb2 hbl2 HM HB
    go_wp2_with fail
    go_loopw [13] (fun i wr => ∃ k : Nat, k ≤ s.size ∧ i = .int .i64 k ∧ Bld w1.heap.size (Qd.qL (s.data.toList.take k)) wr ∧ Below w.heap.size w wr) (fun i _ => s.size - (intOf i).toNat)
    case atStart => exact ⟨0, Nat.zero_le _, rfl, HW2.out, HB2.out⟩
    case round =>
      clear HW2 HB2
      obtain ⟨k, hk, rfl, hbd, hbw⟩ := hrel
      have HBD := Lib.hid hbd
      have HBW := Lib.hid hbw
      have hl := Qd.qL_len (s.data.toList.take k)
      have hl2 : (s.data.toList.take k).length ≤ s.size := by simp; omega
      clear hbd hbw
      by_cases hlt : k < s.size
      · have hby := B.toNat_le s[k]
        cases hp : Qd.pl (s[k].toNat : Int)
        · have HF := Lib.hid (Qd.qL_esc s k hlt hp)
          have HP := Lib.hid hp
          clear hp
          generalize Qd.qL (s.data.toList.take k) = X at *
          go_wp2_with fail
          refine (isPlain_any _ _).mono ?_
          rintro e w' ⟨rfl, rfl⟩
          rw [HP.out]
          go_wp2_with fail
          refine (WriteByte_any _ _ 92 92 rfl _ HBD.out (by omega)).mono ?_
          rintro e w3 ⟨rfl, hb3, hbl3⟩
          have HB3 := Lib.hid hb3
          have HL3 := Lib.hid (HBW.out.trans (hbl3.mono hz1))
          clear hb3 hbl3 HBD HBW
          go_wp2_with fail
          refine (WriteByte_any _ _ s[k] _ rfl _ HB3.out (by simp; omega)).mono ?_
          rintro e w4 ⟨rfl, hb4, hbl4⟩
          rw [HF.out] at hb4
          have HB4 := Lib.hid hb4
          have HL4 := Lib.hid (HL3.out.trans (hbl4.mono hz1))
          clear hb4 hbl4 HB3 HL3
          go_wp2_with fail
          go_roundw
          case rel => exact ⟨k + 1, by omega, by go_num, HB4.out, HL4.out⟩
          case measure => simp [intOf]; omega
        · have HF := Lib.hid (Qd.qL_plain s k hlt hp)
          have HP := Lib.hid hp
          clear hp
          generalize Qd.qL (s.data.toList.take k) = X at *
          go_wp2_with fail
          refine (isPlain_any _ _).mono ?_
          rintro e w' ⟨rfl, rfl⟩
          rw [HP.out]
          go_wp2_with fail
          refine (WriteByte_any _ _ s[k] _ rfl _ HBD.out (by omega)).mono ?_
          rintro e w4 ⟨rfl, hb4, hbl4⟩
          rw [HF.out] at hb4
          have HB4 := Lib.hid hb4
          have HL4 := Lib.hid (HBW.out.trans (hbl4.mono hz1))
          clear hb4 hbl4 HBD HBW
          go_wp2_with fail
          go_roundw
          case rel => exact ⟨k + 1, by omega, by go_num, HB4.out, HL4.out⟩
          case measure => simp [intOf]; omega
      · have hT : s.data.toList.take k = s.data.toList := List.take_of_length_le (by simp; omega)
        rw [hT] at HBD hl
        have hl3 : s.data.toList.length = s.size := by simp
        clear hT hl2
        go_wp2_with fail
        refine (WriteByte_any _ _ 34 34 rfl _ HBD.out (by omega)).mono ?_
        rintro e w3 ⟨rfl, hb3, hbl3⟩
        have HB3 := Lib.hid hb3
        have HL3 := Lib.hid (HBW.out.trans (hbl3.mono hz1))
        clear hb3 hbl3 HBD HBW
        go_wp2_with fail
        refine (String_any _ _ _ HB3.out).mono ?_
        rintro e w4 ⟨rfl, hbl4⟩
        have HL4 := Lib.hid (HL3.out.trans (hbl4.mono hz1))
        clear hbl4 HB3 HL3
        rw [e1.out]
        go_wp2_with fail
        go_ret2
        exact ⟨rfl, HL4.out⟩
theorem Either_any (s : ByteArray) (w : World) (hs : s.size ≤ 10000) :
    Calls Try.prog 39 #[.string s] w fun e w' => e = .returned (.tuple #[.string (eT s), .int .i64 (eE s)]) ∧ Below w.heap.size w w' := by
  cases ht : tokS s
  · have e1 : Hid (eT s = Qd.qT s) := by show _ = _; unfold eT; rw [if_neg (by simp [ht])]
    have e2 : Hid (eE s = Qd.qE s) := by show _ = _; unfold eE; rw [if_neg (by simp [ht])]
    have HT := Lib.hid ht
    clear ht
    rw [e1.out, e2.out]
    go_enter Try.func39, Try.ntmps39
    go_wp2_with fail
    refine (Token_any s _ (by omega)).mono ?_
    rintro e w1 ⟨rfl, hb1⟩
    rw [HT.out]
    have HB1 := Lib.hid hb1
    clear hb1
    go_wp2_with fail
    refine (Quote_any s _ hs).mono ?_
    rintro e w2 ⟨rfl, hb2⟩
    have HB2 := Lib.hid (below_then HB1.out hb2)
    clear hb2 HB1
    go_wp2_with fail
    go_ret2
    exact ⟨rfl, HB2.out⟩
  · have e1 : Hid (eT s = s) := by show _ = _; unfold eT; rw [if_pos ht]
    have e2 : Hid (eE s = 0) := by show _ = _; unfold eE; rw [if_pos ht]
    have HT := Lib.hid ht
    clear ht
    rw [e1.out, e2.out]
    go_enter Try.func39, Try.ntmps39
    go_wp2_with fail
    refine (Token_any s _ (by omega)).mono ?_
    rintro e w1 ⟨rfl, hb1⟩
    rw [HT.out]
    have HB1 := Lib.hid hb1
    clear hb1
    go_wp2_with fail
    go_ret2
    exact ⟨rfl, HB1.out⟩
end Go.Proofs.Ytjgjdcikeagibaa
